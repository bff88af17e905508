/- The law FnPieces returns true for every code: cells minus pairs of neighbors plus squares of four is pieces minus holes. -/
import Derived.Test.YtocjnplbjdpieaaDrawH
import Derived.Test.YtocjnplbjdpieaaPiU
import Derived.Test.YtocjnplbjdpieaaRegWt
import Derived.Deep.CutRange
namespace Go.Proofs.Ytocjnplbjdpieaa.Pieces
set_option linter.unusedVariables false
set_option linter.unusedSimpArgs false
open Go.RowKit Go.Proofs.Ytocjnplbjdpieaa.Base Go.Proofs.Ytocjnplbjdpieaa.Pure Go.Proofs.Ytocjnplbjdpieaa.Cell Go.Proofs.Ytocjnplbjdpieaa.Cels Go.Proofs.Ytocjnplbjdpieaa.Reg Go.Proofs.Ytocjnplbjdpieaa.Draw Go.Proofs.Ytocjnplbjdpieaa.Flo Go.Joins

/-- a region in a box. -/
def Bx (W : World) (p : Nat) (A : Option Addr) (n c : Nat) (xs : List Int) : Prop := W.heap[p]? = some (.cells #[.slice A n c] 26) ∧ RowB W W.heap.size A xs
theorem Bx.on {W W' : World} {p : Nat} {A : Option Addr} {n c : Nat} {xs : List Int} (h : Bx W p A n c xs) (hb : Below W.heap.size W W') : Bx W' p A n c xs :=
  ⟨(hb.block p (Array.getElem?_eq_some_iff.1 h.1).1).trans h.1, (h.2.below hb (Nat.le_refl _)).mono hb.size⟩
theorem Bx.cell {W : World} {p : Nat} {A : Option Addr} {n c : Nat} {xs : List Int} (h : Bx W p A n c xs) : W.cell? ⟨p, 0, none⟩ = some (.slice A n c) := (cellAt h.1 0).1.trans rfl
theorem bx_new {W : World} {B : Nat} {A : Option Addr} {n c : Nat} {xs : List Int} (h : W.ownsRow B 3 1 (.slice A n c) n (ints xs)) : Bx (W.alloc (.cells #[.slice A n c] 26)) W.heap.size A n c xs :=
  ⟨heap_alloc_new W _, ((rowB_own h).below (below_alloc1 W _) (Nat.le_refl _)).mono (below_alloc1 W _).size⟩
/-- what the law holds: the region, the list of its cells. -/
def PF (w : World) (pr : Nat) (Ar : Option Addr) (n cr : Nat) (xs : List Int) (lo hi : Nat) (A1 : Option Addr) (m c1 : Nat) (L : List (Int × Int)) (W : World) : Prop :=
  Below w.heap.size w W ∧ Bx W pr Ar n cr xs ∧ RowIn W lo hi 34 2 (.slice A1 m c1) m (rowC L)
theorem PF.on {w W W' : World} {pr : Nat} {Ar : Option Addr} {n cr : Nat} {xs : List Int} {lo hi : Nat} {A1 : Option Addr} {m c1 : Nat} {L : List (Int × Int)} (h : PF w pr Ar n cr xs lo hi A1 m c1 L W) (hb : Below W.heap.size W W') : PF w pr Ar n cr xs lo hi A1 m c1 L W' :=
  ⟨h.1.trans (hb.mono h.1.size), h.2.1.on hb, h.2.2.on hb⟩

/-- what it holds at its end: the region, and the ring. -/
def PE (w : World) (pr : Nat) (Ar : Option Addr) (n cr : Nat) (xs : List Int) (pg : Nat) (A5 : Option Addr) (n5 c5 : Nat) (W : World) : Prop :=
  Below w.heap.size w W ∧ Bx W pr Ar n cr xs ∧ Bx W pg A5 n5 c5 ringL
theorem PE.on {w W W' : World} {pr : Nat} {Ar : Option Addr} {n cr : Nat} {xs : List Int} {pg : Nat} {A5 : Option Addr} {n5 c5 : Nat} (h : PE w pr Ar n cr xs pg A5 n5 c5 W) (hb : Below W.heap.size W W') : PE w pr Ar n cr xs pg A5 n5 c5 W' :=
  ⟨h.1.trans (hb.mono h.1.size), h.2.1.on hb, h.2.2.on hb⟩

set_option maxRecDepth 100000 in
set_option maxHeartbeats 4000000 in
theorem pieces_law (A : Option Addr) (len cap : Nat) (zs : List Int) (w : World) (h0 : IsRow .u8 w A len cap zs) :
    Calls Try.prog 3 #[.slice A len cap] w fun e w' => e = .returned (.bool true) ∧ Below w.heap.size w w' := by
  have hlen := row_len h0
  by_cases hbig : (1048576 : Int) < (len : Int)
  · go_enter Try.func3, Try.ntmps3
    go_wp2_with fail
    refine (big w A len cap hlen).mono ?_
    rintro e w' ⟨rfl, rfl⟩
    go_wp2
    go_ret
    exact ⟨rfl, Below.refl _ _⟩
  · have HC := Lib.hid (coded_of_row h0 (by omega))
    clear h0
    go_enter Try.func3, Try.ntmps3
    go_wp2_with fail
    refine (big w A len cap hlen).mono ?_
    rintro e w' ⟨rfl, rfl⟩
    go_wp2_with fail
    refine (drawHoles w A len cap HC.out).mono ?_
    rintro e w1 ⟨xs, Ar, n, cr, hX, hn9, rfl, hown, hb1⟩
    have HX := Lib.hid hX.out
    have R0 := Lib.hid (bx_new hown)
    have HB0 := Lib.hid (hb1.trans ((below_alloc1 w1 (.cells #[.slice Ar n cr] 26)).mono hb1.size))
    clear hown hb1 hX HC
    go_wp2_with fail
    have R1 := R0.out
    have hb := HB0.out
    generalize w1.alloc (.cells #[.slice Ar n cr] 26) = W1 at R1 hb ⊢
    generalize w1.heap.size = pr at R1 ⊢
    clear R0 HB0
    have hnI : (n : Int) ≤ 9223372036854775807 := by omega
    refine (sRegionOk W1 Ar n cr W1.heap.size xs HX.out hnI R1.2 (Nat.le_refl _)).mono ?_
    rintro e w2 ⟨rfl, hb2⟩
    have R2 := R1.on hb2
    have hbw := hb.trans (hb2.mono hb.size)
    have c0 := R2.cell
    clear R1 hb hb2
    by_cases ho : okR xs
    · rw [okRB_of ho]
      have HHas := Lib.hid (fun W (h : Bx W pr Ar n cr xs) X Y => sHasCell W Ar n cr W.heap.size xs HX.out hnI h.2 (Nat.le_refl _) X Y)
      have HPi := Lib.hid (fun W (h : Bx W pr Ar n cr xs) X Y => iPieceOf W Ar n cr W.heap.size xs HX.out hnI h.2 (Nat.le_refl _) X Y)
      have HPc := Lib.hid (fun W (h : Bx W pr Ar n cr xs) => iCountPieces W Ar n cr W.heap.size xs HX.out hnI h.2 (Nat.le_refl _))
      have HHl := Lib.hid (fun W (h : Bx W pr Ar n cr xs) => iCountHoles W Ar n cr W.heap.size xs HX.out hnI h.2 (Nat.le_refl _))
      have HSi := Lib.hid (fun W (h : Bx W pr Ar n cr xs) => iIsSimple W Ar n cr W.heap.size xs HX.out hnI h.2 (Nat.le_refl _))
      have HBa := Lib.hid (fun W (h : Bx W pr Ar n cr xs) => iIsBalanced W Ar n cr W.heap.size xs HX.out hnI h.2 (Nat.le_refl _))
      have HEx := Lib.hid (fun W (h : Bx W pr Ar n cr xs) => iBlackExcess W Ar n cr W.heap.size xs HX.out hnI h.2 (Nat.le_refl _))
      have HSim := Lib.hid (show simB xs = (decide (pcsN xs = 1) && decide (holN xs = 0) && !touchB xs) by
        unfold simB
        rw [Bool.eq_iff_iff]
        simp [ho, and_assoc])
      have HBal := Lib.hid (show balB xs = decide (excR xs = 0) by unfold balB; simp [ho])
      have HSum := Lib.hid (sum_all ho)
      have HAny := Lib.hid (any_all ho)
      have HIn := Lib.hid (fun k p (hk : (cellsR xs)[k]? = some p) => in_piece ho hk)
      have HLe := Lib.hid (fun k => sumTo_le xs (cellsR xs) k)
      have HLl := cellsR_length xs
      have HCb := Lib.hid (fun (k : Nat) (p : Int × Int) (hk : (cellsR xs)[k]? = some p) => show 0 ≤ p.1 ∧ p.1 ≤ 7 ∧ 0 ≤ p.2 ∧ p.2 ≤ 7 by
        have hkl : k < (cellsR xs).length := by
          rcases Nat.lt_or_ge k (cellsR xs).length with q | q
          · exact q
          · rw [List.getElem?_eq_none q] at hk; cases hk
        obtain ⟨j, hj, e⟩ := cells_at hkl
        rw [e] at hk
        cases hk
        unfold Bal.cellI
        simp only
        omega)
      have HOk := Lib.hid ho
      clear ho
      go_wp2_with fail
      refine (sCellsOf w2 Ar n cr w2.heap.size xs HX.out hnI R2.2 (Nat.le_refl _)).mono ?_
      rintro e w3 ⟨A1, c1, rfl, hown, hb3⟩
      have P3 := Lib.hid (show PF w pr Ar n cr xs w2.heap.size w3.heap.size A1 (cellsR xs).length c1 (cellsR xs) w3 from ⟨hbw.trans (hb3.mono hbw.size), R2.on hb3, rowIn_new hown⟩)
      generalize w2.heap.size = lo at P3
      generalize w3.heap.size = hi at P3
      clear hown hb3 R2 hbw c0
      generalize cellsR xs = L at P3 HSum HAny HIn HLe HLl HCb
      obtain ⟨m, hm⟩ : ∃ m, m = L.length := ⟨_, rfl⟩
      rw [← hm] at P3 HSum HAny HLe HLl ⊢
      have HM := Lib.hid hm
      have HS0 := Lib.hid (show sumTo (addP xs) L 0 = (m : Int) by rw [hm]; rfl)
      clear hm
      go_wp2_with fail
      go_loopw [4, 6, 7] (fun t s i wr => ∃ k : Nat, k ≤ m ∧ i = .int .i64 k ∧ t = .bool (anyTo (tchP xs) L k) ∧ s = .int .i64 (sumTo (addP xs) L k) ∧ PF w pr Ar n cr xs lo hi A1 m c1 L wr) (fun _ _ i _ => m - (intOf i).toNat)
      case atStart => exact ⟨0, Nat.zero_le _, rfl, rfl, by rw [HS0.out], P3.out⟩
      case round =>
        clear P3 HS0
        obtain ⟨k, hk, rfl, rfl, rfl, hP⟩ := hrel
        by_cases hlt : k < m
        · obtain ⟨p, hLk⟩ : ∃ p, L[k]? = some p := ⟨_, List.getElem?_eq_getElem (by have := HM.out; omega)⟩
          obtain ⟨hx0, hx7, hy0, hy7⟩ := HCb.out k p hLk
          have HIp := Lib.hid (HIn.out k p hLk)
          obtain ⟨nb, c', hv1, _, _⟩ := hP.2.2.1.form (by omega)
          injection hv1 with hA2 hm2 hc2
          subst hA2
          subst hc2
          have HCl := Lib.hid (fun W (h : PF w pr Ar n cr xs lo hi (some ⟨nb, 0, none⟩) m c1 L W) => by
            obtain ⟨q1, q2⟩ := rowC_at L k p hLk
            exact And.intro (own_cell h.2.2.1 q1) (own_cell h.2.2.1 q2))
          have hgd : L.getD k (0, 0) = p := by simp [List.getD, hLk]
          have HS1 := Lib.hid (show sumTo (addP xs) L (k + 1) = sumTo (addP xs) L k + (b2i (hasB xs (p.1 + 1) p.2 && hasB xs p.1 (p.2 + 1) && hasB xs (p.1 + 1) (p.2 + 1)) - b2i (hasB xs (p.1 + 1) p.2) - b2i (hasB xs p.1 (p.2 + 1))) by rw [← hgd]; rfl)
          have HT1 := Lib.hid (show anyTo (tchP xs) L (k + 1) = (anyTo (tchP xs) L k || ((hasB xs (p.1 + 1) (p.2 + 1) && !hasB xs (p.1 + 1) p.2 && !hasB xs p.1 (p.2 + 1)) || (hasB xs (p.1 - 1) (p.2 + 1) && !hasB xs (p.1 - 1) p.2 && !hasB xs p.1 (p.2 + 1)))) by rw [← hgd]; rfl)
          obtain ⟨hs0, hs1⟩ := HLe.out k
          have HF1 := Lib.hid (found_all HIp.out)
          obtain ⟨x, y⟩ := p
          simp only at hx0 hx7 hy0 hy7 HIp HCl HS1 HT1 HF1
          generalize hS : sumTo (addP xs) L k = S at HS1 hs0 hs1 ⊢
          generalize hT : anyTo (tchP xs) L k = T at HT1 ⊢
          have HR := Lib.hid (fun W (h : PF w pr Ar n cr xs lo hi (some ⟨nb, 0, none⟩) m c1 L W) => HHas.out W h.2.1 (x + 1) y)
          have HDn := Lib.hid (fun W (h : PF w pr Ar n cr xs lo hi (some ⟨nb, 0, none⟩) m c1 L W) => HHas.out W h.2.1 x (y + 1))
          have HAc := Lib.hid (fun W (h : PF w pr Ar n cr xs lo hi (some ⟨nb, 0, none⟩) m c1 L W) => HHas.out W h.2.1 (x + 1) (y + 1))
          have HBk := Lib.hid (fun W (h : PF w pr Ar n cr xs lo hi (some ⟨nb, 0, none⟩) m c1 L W) => HHas.out W h.2.1 (x - 1) (y + 1))
          have HLf := Lib.hid (fun W (h : PF w pr Ar n cr xs lo hi (some ⟨nb, 0, none⟩) m c1 L W) => HHas.out W h.2.1 (x - 1) y)
          generalize hasB xs (x + 1) y = r at HR HS1 HT1
          generalize hasB xs x (y + 1) = d at HDn HS1 HT1
          generalize hasB xs (x + 1) (y + 1) = a at HAc HS1 HT1
          generalize hasB xs (x - 1) (y + 1) = bk at HBk HT1
          generalize hasB xs (x - 1) y = lf at HLf HT1
          obtain ⟨c0, c1'⟩ := HCl.out wr hP
          have cr0 := hP.2.1.cell
          clear hLk hgd hS hT
          go_wp2_with fail
          refine (HR.out _ hP).mono ?_
          rintro e w4 ⟨rfl, hb4⟩
          have P4 := hP.on hb4
          have cr4 := P4.2.1.cell
          clear hP hb4 c0 c1' cr0
          go_wp2_with fail
          refine (HDn.out _ P4).mono ?_
          rintro e w5 ⟨rfl, hb5⟩
          have P5 := P4.on hb5
          have cr5 := P5.2.1.cell
          clear P4 hb5 cr4
          go_upto_region 16 with fail
          go_cut [6] from 39 to 157 (fun s6 wx => s6 = .int .i64 (S + (b2i (r && d && a) - b2i r - b2i d)) ∧ PF w pr Ar n cr xs lo hi (some ⟨nb, 0, none⟩) m c1 L wx)
          case first =>
            cases r with
            | false =>
              go_wp2_with fail
              refine (btoi false _).mono ?_
              rintro e w6 ⟨rfl, rfl⟩
              cases d with
              | false =>
                go_wp2_with fail
                refine (btoi false _).mono ?_
                rintro e w6 ⟨rfl, rfl⟩
                go_wp2_with fail
                refine (btoi false _).mono ?_
                rintro e w6 ⟨rfl, rfl⟩
                go_wp2_with fail
                go_meet
                case rel => exact ⟨by simp [b2i], P5⟩
              | true =>
                go_wp2_with fail
                refine (btoi true _).mono ?_
                rintro e w6 ⟨rfl, rfl⟩
                go_wp2_with fail
                refine (btoi false _).mono ?_
                rintro e w6 ⟨rfl, rfl⟩
                go_wp2_with fail
                go_meet
                case rel => exact ⟨by simp [b2i]; omega, P5⟩
            | true =>
              go_wp2_with fail
              refine (btoi true _).mono ?_
              rintro e w6 ⟨rfl, rfl⟩
              cases d with
              | false =>
                go_wp2_with fail
                refine (btoi false _).mono ?_
                rintro e w6 ⟨rfl, rfl⟩
                go_wp2_with fail
                refine (btoi false _).mono ?_
                rintro e w6 ⟨rfl, rfl⟩
                go_wp2_with fail
                go_meet
                case rel => exact ⟨by simp [b2i]; omega, P5⟩
              | true =>
                go_wp2_with fail
                refine (btoi true _).mono ?_
                rintro e w6 ⟨rfl, rfl⟩
                go_wp2_with fail
                refine (HAc.out _ P5).mono ?_
                rintro e w7 ⟨rfl, hb7⟩
                have P7 := P5.on hb7
                cases a with
                | false =>
                  go_wp2_with fail
                  refine (btoi false _).mono ?_
                  rintro e w6 ⟨rfl, rfl⟩
                  go_wp2_with fail
                  go_meet
                  case rel => exact ⟨by simp [b2i]; omega, P7⟩
                | true =>
                  go_wp2_with fail
                  refine (btoi true _).mono ?_
                  rintro e w6 ⟨rfl, rfl⟩
                  go_wp2_with fail
                  go_meet
                  case rel => exact ⟨by simp [b2i]; omega, P7⟩
          case rest =>
            obtain ⟨rfl, P8⟩ := hcut
            clear P5 cr5
            have cr8 := P8.2.1.cell
            go_wp2_with fail
            refine (HAc.out _ P8).mono ?_
            rintro e w9 ⟨rfl, hb9⟩
            have P9 := P8.on hb9
            have cr9 := P9.2.1.cell
            clear P8 hb9 cr8
            go_wp2_with fail
            refine (HBk.out _ P9).mono ?_
            rintro e w10 ⟨rfl, hb10⟩
            have P10 := P9.on hb10
            have cr10 := P10.2.1.cell
            clear P9 hb10 cr9
            go_wp2_with fail
            refine (HLf.out _ P10).mono ?_
            rintro e w11 ⟨rfl, hb11⟩
            have P11 := P10.on hb11
            clear P10 hb11 cr10
            go_upto_region 20 with fail
            go_cut [4] from 39 to 157 (fun s4 wx => s4 = .bool (T || ((a && !r && !d) || (bk && !lf && !d))) ∧ PF w pr Ar n cr xs lo hi (some ⟨nb, 0, none⟩) m c1 L wx)
            case first =>
              cases T
              · cases a
                · cases bk
                  · go_wp2_with fail
                    go_meet
                    case rel => exact ⟨by rfl, P11⟩
                  · cases lf
                    · cases d
                      · go_wp2_with fail
                        go_meet
                        case rel => exact ⟨by rfl, P11⟩
                      · go_wp2_with fail
                        go_meet
                        case rel => exact ⟨by rfl, P11⟩
                    · go_wp2_with fail
                      go_meet
                      case rel => exact ⟨by rfl, P11⟩
                · cases r
                  · cases d
                    · go_wp2_with fail
                      go_meet
                      case rel => exact ⟨by rfl, P11⟩
                    · cases bk
                      · go_wp2_with fail
                        go_meet
                        case rel => exact ⟨by rfl, P11⟩
                      · cases lf
                        · go_wp2_with fail
                          go_meet
                          case rel => exact ⟨by rfl, P11⟩
                        · go_wp2_with fail
                          go_meet
                          case rel => exact ⟨by rfl, P11⟩
                  · cases bk
                    · go_wp2_with fail
                      go_meet
                      case rel => exact ⟨by rfl, P11⟩
                    · cases lf
                      · cases d
                        · go_wp2_with fail
                          go_meet
                          case rel => exact ⟨by rfl, P11⟩
                        · go_wp2_with fail
                          go_meet
                          case rel => exact ⟨by rfl, P11⟩
                      · go_wp2_with fail
                        go_meet
                        case rel => exact ⟨by rfl, P11⟩
              · go_wp2_with fail
                go_meet
                case rel => exact ⟨by rfl, P11⟩
            case rest =>
              obtain ⟨rfl, P12⟩ := hcut
              clear P11 HR HDn HAc HBk HLf
              have HS := Lib.hid (fun W (h : PF w pr Ar n cr xs lo hi (some ⟨nb, 0, none⟩) m c1 L W) => show PF w pr Ar n cr xs lo hi (some ⟨nb, 0, none⟩) m c1 L W ∧ W.cell? ⟨pr, 0, none⟩ = some (.slice Ar n cr) ∧ W.cell? ⟨nb, k * 2, none⟩ = some (.int .i64 x) ∧ W.cell? ⟨nb, k * 2 + 1, none⟩ = some (.int .i64 y) from ⟨h, h.2.1.cell, (HCl.out W h).1, (HCl.out W h).2⟩)
              go_upto_region 21 with fail
              refine wp_region_noPanic ?_
              refine wp_region_held_drew (S := (fun W => PF w pr Ar n cr xs lo hi (some ⟨nb, 0, none⟩) m c1 L W ∧ W.cell? ⟨pr, 0, none⟩ = some (.slice Ar n cr) ∧ W.cell? ⟨nb, k * 2, none⟩ = some (.int .i64 x) ∧ W.cell? ⟨nb, k * 2 + 1, none⟩ = some (.int .i64 y))) (by as_aux_lemma => kernel_rfl) (HS.out _ (P12.on (Below.refl _ _).drew)) (fun hHeld => ?_)
              refine wpAnyH_take (i := 0) (v := ?_) rfl (by as_aux_lemma => kernel_rfl) (by as_aux_lemma => kernel_rfl) (by as_aux_lemma => kernel_rfl) (fun _ _ _ h => h) (Or.inl ⟨by rfl, ?_⟩) (by assumption) ?_
              rotate_left
              · (intro w' hS; (try dsimp only at hS); go_simp; try with_reducible rfl)
              try simp only [Act.put, List.getElem_toArray, List.getElem_cons_succ, List.getElem_cons_zero, List.setIfInBounds_toArray, List.set_cons_zero, List.set_cons_succ]
              refine wpAnyH_take (i := 1) (v := ?_) rfl (by as_aux_lemma => kernel_rfl) (by as_aux_lemma => kernel_rfl) (by as_aux_lemma => kernel_rfl) (fun _ _ _ h => h) (Or.inl ⟨by rfl, ?_⟩) (by assumption) ?_
              rotate_left
              · (intro w' hS; (try dsimp only at hS); go_simp; try with_reducible rfl)
              try simp only [Act.put, List.getElem_toArray, List.getElem_cons_succ, List.getElem_cons_zero, List.setIfInBounds_toArray, List.set_cons_zero, List.set_cons_succ]
              refine wpAnyH_take (i := 2) (v := ?_) rfl (by as_aux_lemma => kernel_rfl) (by as_aux_lemma => kernel_rfl) (by as_aux_lemma => kernel_rfl) (fun _ _ _ h => h) (Or.inl ⟨by rfl, ?_⟩) (by assumption) ?_
              rotate_left
              · (intro w' hS; (try dsimp only at hS); go_simp; try with_reducible rfl)
              try simp only [Act.put, List.getElem_toArray, List.getElem_cons_succ, List.getElem_cons_zero, List.setIfInBounds_toArray, List.set_cons_zero, List.set_cons_succ]
              refine wpAnyH_take (i := 3) (v := ?_) rfl (by as_aux_lemma => kernel_rfl) (by as_aux_lemma => kernel_rfl) (by as_aux_lemma => kernel_rfl) (fun _ _ _ h => h) (Or.inl ⟨by rfl, ?_⟩) (by assumption) ?_
              rotate_left
              · (intro w' hS; (try dsimp only at hS); go_simp; try with_reducible rfl)
              try simp only [Act.put, List.getElem_toArray, List.getElem_cons_succ, List.getElem_cons_zero, List.setIfInBounds_toArray, List.set_cons_zero, List.set_cons_succ]
              refine wpAnyH_take (i := 4) (v := ?_) rfl (by as_aux_lemma => kernel_rfl) (by as_aux_lemma => kernel_rfl) (by as_aux_lemma => kernel_rfl) (fun _ _ _ h => h) (Or.inl ⟨by rfl, ?_⟩) (by assumption) ?_
              rotate_left
              · (intro w' hS; (try dsimp only at hS); go_simp; try with_reducible rfl)
              try simp only [Act.put, List.getElem_toArray, List.getElem_cons_succ, List.getElem_cons_zero, List.setIfInBounds_toArray, List.set_cons_zero, List.set_cons_succ]
              refine wpAnyH_ready (rs := [5]) (by as_aux_lemma => kernel_rfl) (by simp) ?_
              refine AllReadyH.cons rfl (fun K hK => ?_) AllReadyH.nil
              go_simp
              refine (HPi.out _ hHeld.1.2.1 x y).mono ?_
              rintro e wx ⟨Ap, cp, rfl, hown, hbx⟩
              have HRp := Lib.hid (rowC_own hown)
              have HAp := Lib.hid (fun (b off : Nat) (e : Ap = some ⟨b, off, none⟩) => (hown.lt b (by rw [e]; rfl)).2)
              clear hown
              go_wp2_with fail
              refine hK.out _ _ (HS.out _ (hHeld.1.on hbx)) (fun hHeld => ?_)
              clear hK K
              try simp only [Act.put, List.getElem_toArray, List.getElem_cons_succ, List.getElem_cons_zero, List.setIfInBounds_toArray, List.set_cons_zero, List.set_cons_succ]
              refine wpAnyH_take (i := 6) (v := ?_) rfl (by as_aux_lemma => kernel_rfl) (by as_aux_lemma => kernel_rfl) (by as_aux_lemma => kernel_rfl) (fun _ _ _ h => h) (Or.inl ⟨by rfl, ?_⟩) (by assumption) ?_
              rotate_left
              · (intro w' hS; (try dsimp only at hS); go_simp; try with_reducible rfl)
              try simp only [Act.put, List.getElem_toArray, List.getElem_cons_succ, List.getElem_cons_zero, List.setIfInBounds_toArray, List.set_cons_zero, List.set_cons_succ]
              refine wpAnyH_done (by as_aux_lemma => kernel_rfl) ?_ _
              refine NoPanic.normal ?_
              have P13 := Lib.hid hHeld.1
              clear hHeld P12 HS
              have hpl := pieceR_length xs x y
              generalize pieceR xs x y = PL at HRp HAp HF1 hpl ⊢
              obtain ⟨mp, hmp⟩ : ∃ mp, mp = PL.length := ⟨_, rfl⟩
              have HMp := Lib.hid hmp
              rw [← hmp] at HF1 hpl ⊢
              clear hmp
              go_wp2_with fail
              go_loopw [16, 17] (fun f i wr => ∃ q : Nat, q ≤ mp ∧ i = .int .i64 q ∧ f = .bool (anyTo (fun z => eqP z (x, y)) PL q) ∧ Below wx.heap.size wx wr) (fun _ i _ => mp - (intOf i).toNat)
              case atStart => exact ⟨0, Nat.zero_le _, rfl, rfl, Below.refl _ _⟩
              case round =>
                obtain ⟨q, hq, rfl, rfl, hbq⟩ := hrel
                have P14 := Lib.hid (P13.out.on hbq)
                by_cases hlq : q < mp
                · have hql : q < PL.length := by have := HMp.out; omega
                  obtain ⟨gp, off, h1, h2⟩ := HRp.out.below hbq (fun b off e => HAp.out b off e)
                  obtain ⟨rfl, hgb⟩ := h1 (by omega)
                  obtain ⟨d0, d1⟩ := h2 q PL[q] (List.getElem?_eq_getElem hql)
                  have hst : anyTo (fun z => eqP z (x, y)) PL (q + 1) = (anyTo (fun z => eqP z (x, y)) PL q || eqP PL[q] (x, y)) := by
                    have e : PL.getD q (0, 0) = PL[q] := by simp [List.getD, List.getElem?_eq_getElem hql]
                    rw [← e]; rfl
                  obtain ⟨c0, c1'⟩ := HCl.out wr P14.out
                  unfold eqP at hst
                  simp only at hst
                  have HSt := Lib.hid hst
                  generalize PL[q].1 = x0 at d0 HSt
                  generalize PL[q].2 = y0 at d1 HSt
                  generalize hF : anyTo (fun z => decide (z.1 = x ∧ z.2 = y)) PL q = F at HSt
                  have hF2 : anyTo (fun z => eqP z (x, y)) PL q = F := hF
                  have HSt : Hid (anyTo (fun z => eqP z (x, y)) PL (q + 1) = (F || decide (x0 = x ∧ y0 = y))) := HSt
                  rw [hF2]
                  clear h1 h2 hst hF hF2
                  cases F with
                  | true =>
                    go_wp2_with fail
                    go_quiet (fail)
                    go_wp2
                    go_roundw
                    case rel => exact ⟨q + 1, by omega, by go_num, by rw [HSt.out]; simp, drewN_below hbq _⟩
                    case measure => (simp [intOf] <;> omega)
                  | false =>
                    by_cases e1 : x0 = x
                    · subst e1
                      by_cases e2 : y0 = y
                      · subst e2
                        go_wp2_with fail
                        go_quiet (fail)
                        go_wp2
                        go_roundw
                        case rel => exact ⟨q + 1, by omega, by go_num, by rw [HSt.out]; simp, drewN_below hbq _⟩
                        case measure => (simp [intOf] <;> omega)
                      · have hd : decide (y0 = y) = false := decide_eq_false e2
                        go_wp2_with fail
                        go_quiet (fail)
                        go_wp2
                        go_roundw
                        case rel => exact ⟨q + 1, by omega, by go_num, by rw [HSt.out]; simp [e2], drewN_below hbq _⟩
                        case measure => (simp [intOf] <;> omega)
                    · have hd : decide (x0 = x) = false := decide_eq_false e1
                      go_wp2_with fail
                      go_quiet (fail)
                      go_wp2
                      go_roundw
                      case rel => exact ⟨q + 1, by omega, by go_num, by rw [HSt.out]; simp [e1], drewN_below hbq _⟩
                      case measure => (simp [intOf] <;> omega)
                · obtain rfl : q = mp := by omega
                  rw [HF1.out]
                  have P15 := P14.out
                  clear P14 hbq
                  go_wp2
                  go_roundw
                  case rel => exact ⟨k + 1, by omega, by go_num, by rw [HT1.out], by rw [HS1.out], P15⟩
                  case measure => (simp [intOf] <;> omega)
        · obtain rfl : k = m := by omega
          rw [HSum.out, HAny.out]
          have hbw := hP.1
          have R3 := hP.2.1
          clear hP HHas HPi HIn HLe HCb HM
          go_wp2_with fail
          refine (iRectangle wr 3 3).mono ?_
          rintro e w4 ⟨A4, c4, rfl, hown4, hb4⟩
          have R4 := R3.on hb4
          have hbw4 := hbw.trans (hb4.mono hbw.size)
          have hl4 := rectR_length 3 3
          have hno4 := own_none hown4
          have HR4 := Lib.hid (rowB_own hown4)
          clear hown4 hb4 R3 hbw
          go_wp2_with fail
          refine (sWithCell w4 A4 (rectR 3 3).length c4 w4.heap.size (rectR 3 3) rfl (by omega) HR4.out (Nat.le_refl _) hno4 1 1 false).mono ?_
          rintro e w5 ⟨A5, c5, rfl, hown5, hb5⟩
          rw [ring_is] at hown5 ⊢
          have R5 := R4.on hb5
          have hbw5 := hbw4.trans (hb5.mono hbw4.size)
          clear hb5 R4 hbw4 HR4 hno4 hl4
          have PE6 := Lib.hid (show PE w pr Ar n cr xs w5.heap.size A5 ringL.length c5 (w5.alloc (.cells #[.slice A5 ringL.length c5] 26)) from ⟨hbw5.trans ((below_alloc1 w5 _).mono hbw5.size), R5.on (below_alloc1 w5 _), bx_new hown5⟩)
          clear hown5 R5 hbw5
          obtain ⟨n5, hn5⟩ : ∃ n5, n5 = ringL.length := ⟨_, rfl⟩
          rw [← hn5] at PE6 ⊢
          have HRg := Lib.hid (fun W (h : Bx W w5.heap.size A5 n5 c5 ringL) => show Calls Try.prog 21 #[.agg #[.slice A5 n5 c5]] W (Num 1 W) by
            have q := iCountHoles W A5 n5 c5 W.heap.size ringL hn5.symm (by rw [hn5]; decide) h.2 (Nat.le_refl _)
            rwa [ring_holes] at q)
          clear hn5
          go_upto_region 30 with fail
          generalize w5.heap.size = pg at PE6 HRg ⊢
          generalize w5.alloc (.cells #[.slice A5 n5 c5] 26) = W6 at PE6 ⊢
          have HS := Lib.hid (fun W (h : PE w pr Ar n cr xs pg A5 n5 c5 W) => show PE w pr Ar n cr xs pg A5 n5 c5 W ∧ W.cell? ⟨pr, 0, none⟩ = some (.slice Ar n cr) ∧ W.cell? ⟨pg, 0, none⟩ = some (.slice A5 n5 c5) from ⟨h, h.2.1.cell, h.2.2.cell⟩)
          have hp64 := pcsN_le xs
          have hh100 := holN_le xs
          rw [HSim.out] at HSi
          rw [HBal.out] at HBa
          clear HSum HAny HSim HBal HLl
          generalize pcsN xs = pn at HPc HSi hp64 ⊢
          generalize holN xs = hl at HHl HSi hh100 ⊢
          generalize touchB xs = tb at HSi ⊢
          generalize excR xs = ex at HEx HBa
          obtain ⟨N, hN⟩ : ∃ N : Int, (pn : Int) - (hl : Int) = N := ⟨_, rfl⟩
          have hw : IntKind.i64.wrap N = N := by rw [IntKind.wrap_i64]; omega
          rw [hN]
          obtain ⟨bb, hbb⟩ : ∃ bb, decide (ex = 0) = bb := ⟨_, rfl⟩
          have hbb2 : (ex == 0) = bb := by rw [← hbb]; by_cases q : ex = 0 <;> simp [q]
          rw [hbb] at HBa
          by_cases h1 : pn = 1
          · have h1b : (((pn : Nat) : Int) == 1) = true := by simp; omega
            have h1c : decide (((pn : Nat) : Int) = 1) = true := by simp; omega
            by_cases h2 : hl = 0
            · have h2b : (((hl : Nat) : Int) == 0) = true := by simp; omega
              have h2c : decide (((hl : Nat) : Int) = 0) = true := by simp; omega
              have HSi := Lib.hid (fun W h => show Calls Try.prog 13 #[.agg #[.slice Ar n cr]] W (Bol (!tb) W) from by
                have q := HSi.out W h
                simpa [h1, h2] using q)
              clear h1 h2
              refine wp_region_noPanic ?_
              refine wp_region_held_drew (S := (fun W => PE w pr Ar n cr xs pg A5 n5 c5 W ∧ W.cell? ⟨pr, 0, none⟩ = some (.slice Ar n cr) ∧ W.cell? ⟨pg, 0, none⟩ = some (.slice A5 n5 c5))) (by as_aux_lemma => kernel_rfl) (HS.out _ (PE6.out.on (Below.refl _ _).drew)) (fun hHeld => ?_)
              refine wpAnyH_take (i := 0) (v := ?_) rfl (by as_aux_lemma => kernel_rfl) (by as_aux_lemma => kernel_rfl) (by as_aux_lemma => kernel_rfl) (fun _ _ _ h => h) (Or.inl ⟨by rfl, ?_⟩) (by assumption) ?_
              rotate_left
              · (intro w' hS; (try dsimp only at hS); go_simp; try with_reducible rfl)
              try simp only [Act.put, List.getElem_toArray, List.getElem_cons_succ, List.getElem_cons_zero, List.setIfInBounds_toArray, List.set_cons_zero, List.set_cons_succ]
              refine wpAnyH_take (i := 2) (v := ?_) rfl (by as_aux_lemma => kernel_rfl) (by as_aux_lemma => kernel_rfl) (by as_aux_lemma => kernel_rfl) (fun _ _ _ h => h) (Or.inl ⟨by rfl, ?_⟩) (by assumption) ?_
              rotate_left
              · (intro w' hS; (try dsimp only at hS); go_simp; try with_reducible rfl)
              try simp only [Act.put, List.getElem_toArray, List.getElem_cons_succ, List.getElem_cons_zero, List.setIfInBounds_toArray, List.set_cons_zero, List.set_cons_succ]
              refine wpAnyH_take (i := 5) (v := ?_) rfl (by as_aux_lemma => kernel_rfl) (by as_aux_lemma => kernel_rfl) (by as_aux_lemma => kernel_rfl) (fun _ _ _ h => h) (Or.inl ⟨by rfl, ?_⟩) (by assumption) ?_
              rotate_left
              · (intro w' hS; (try dsimp only at hS); go_simp; try with_reducible rfl)
              try simp only [Act.put, List.getElem_toArray, List.getElem_cons_succ, List.getElem_cons_zero, List.setIfInBounds_toArray, List.set_cons_zero, List.set_cons_succ]
              refine wpAnyH_ready (rs := [1]) (by as_aux_lemma => kernel_rfl) (by simp) ?_
              refine AllReadyH.cons rfl (fun K hK => ?_) AllReadyH.nil
              go_simp
              refine (HPc.out _ hHeld.1.2.1).mono ?_
              rintro e wx ⟨rfl, hbx⟩
              go_wp2_with fail
              refine hK.out _ _ (HS.out _ (hHeld.1.on hbx)) (fun hHeld => ?_)
              clear hK K
              try simp only [Act.put, List.getElem_toArray, List.getElem_cons_succ, List.getElem_cons_zero, List.setIfInBounds_toArray, List.set_cons_zero, List.set_cons_succ]
              refine wpAnyH_ready (rs := [3]) (by as_aux_lemma => kernel_rfl) (by simp) ?_
              refine AllReadyH.cons rfl (fun K hK => ?_) AllReadyH.nil
              go_simp
              refine (HHl.out _ hHeld.1.2.1).mono ?_
              rintro e wx ⟨rfl, hbx⟩
              go_wp2_with fail
              refine hK.out _ _ (HS.out _ (hHeld.1.on hbx)) (fun hHeld => ?_)
              clear hK K
              try simp only [Act.put, List.getElem_toArray, List.getElem_cons_succ, List.getElem_cons_zero, List.setIfInBounds_toArray, List.set_cons_zero, List.set_cons_succ]
              refine wpAnyH_take (i := 4) (v := ?_) rfl (by as_aux_lemma => kernel_rfl) (by as_aux_lemma => kernel_rfl) (by as_aux_lemma => kernel_rfl) (fun _ _ _ h => h) (Or.inl ⟨by rfl, ?_⟩) (by assumption) ?_
              rotate_left
              · (intro w' hS; (try dsimp only at hS); go_simp; try with_reducible rfl)
              try simp only [Act.put, List.getElem_toArray, List.getElem_cons_succ, List.getElem_cons_zero, List.setIfInBounds_toArray, List.set_cons_zero, List.set_cons_succ]
              refine wpAnyH_take (i := 6) (v := ?_) rfl (by as_aux_lemma => kernel_rfl) (by as_aux_lemma => kernel_rfl) (by as_aux_lemma => kernel_rfl) (fun _ _ _ h => h) (Or.inl ⟨by rfl, ?_⟩) (by assumption) ?_
              rotate_left
              · (intro w' hS; (try dsimp only at hS); go_simp; try with_reducible rfl)
              try simp only [Act.put, List.getElem_toArray, List.getElem_cons_succ, List.getElem_cons_zero, List.setIfInBounds_toArray, List.set_cons_zero, List.set_cons_succ]
              refine wpAnyH_take (i := 7) (v := ?_) rfl (by as_aux_lemma => kernel_rfl) (by as_aux_lemma => kernel_rfl) (by as_aux_lemma => kernel_rfl) (fun _ _ _ h => h) (Or.inl ⟨by rfl, ?_⟩) (by assumption) ?_
              rotate_left
              · (intro w' hS; (try dsimp only at hS); go_simp; try with_reducible rfl)
              try simp only [Act.put, List.getElem_toArray, List.getElem_cons_succ, List.getElem_cons_zero, List.setIfInBounds_toArray, List.set_cons_zero, List.set_cons_succ]
              refine wpAnyH_take (i := 8) (v := ?_) rfl (by as_aux_lemma => kernel_rfl) (by as_aux_lemma => kernel_rfl) (by as_aux_lemma => kernel_rfl) (fun _ _ _ h => h) (Or.inl ⟨by rfl, ?_⟩) (by assumption) ?_
              rotate_left
              · (intro w' hS; (try dsimp only at hS); go_simp; try with_reducible rfl)
              try simp only [Act.put, List.getElem_toArray, List.getElem_cons_succ, List.getElem_cons_zero, List.setIfInBounds_toArray, List.set_cons_zero, List.set_cons_succ]
              refine wpAnyH_take (i := 10) (v := ?_) rfl (by as_aux_lemma => kernel_rfl) (by as_aux_lemma => kernel_rfl) (by as_aux_lemma => kernel_rfl) (fun _ _ _ h => h) (Or.inl ⟨by rfl, ?_⟩) (by assumption) ?_
              rotate_left
              · (intro w' hS; (try dsimp only at hS); go_simp; try with_reducible rfl)
              try simp only [Act.put, List.getElem_toArray, List.getElem_cons_succ, List.getElem_cons_zero, List.setIfInBounds_toArray, List.set_cons_zero, List.set_cons_succ]
              refine wpAnyH_ready (rs := [9]) (by as_aux_lemma => kernel_rfl) (by simp) ?_
              refine AllReadyH.cons rfl (fun K hK => ?_) AllReadyH.nil
              go_simp
              refine (HSi.out _ hHeld.1.2.1).mono ?_
              rintro e wx ⟨rfl, hbx⟩
              go_wp2_with fail
              refine hK.out _ _ (HS.out _ (hHeld.1.on hbx)) (fun hHeld => ?_)
              clear hK K
              try simp only [Act.put, List.getElem_toArray, List.getElem_cons_succ, List.getElem_cons_zero, List.setIfInBounds_toArray, List.set_cons_zero, List.set_cons_succ]
              refine wpAnyH_ready (rs := [11]) (by as_aux_lemma => kernel_rfl) (by simp) ?_
              refine AllReadyH.cons rfl (fun K hK => ?_) AllReadyH.nil
              go_simp
              refine (HPc.out _ hHeld.1.2.1).mono ?_
              rintro e wx ⟨rfl, hbx⟩
              go_wp2_with fail
              refine hK.out _ _ (HS.out _ (hHeld.1.on hbx)) (fun hHeld => ?_)
              clear hK K
              try simp only [Act.put, List.getElem_toArray, List.getElem_cons_succ, List.getElem_cons_zero, List.setIfInBounds_toArray, List.set_cons_zero, List.set_cons_succ]
              refine wpAnyH_take (i := 12) (v := ?_) rfl (by as_aux_lemma => kernel_rfl) (by as_aux_lemma => kernel_rfl) (by as_aux_lemma => kernel_rfl) (fun _ _ _ h => h) (Or.inl ⟨by rfl, ?_⟩) (by assumption) ?_
              rotate_left
              · (intro w' hS; (try dsimp only at hS); go_simp; try with_reducible rfl)
              try simp only [Act.put, List.getElem_toArray, List.getElem_cons_succ, List.getElem_cons_zero, List.setIfInBounds_toArray, List.set_cons_zero, List.set_cons_succ]
              refine wpAnyH_take (i := 13) (v := ?_) rfl (by as_aux_lemma => kernel_rfl) (by as_aux_lemma => kernel_rfl) (by as_aux_lemma => kernel_rfl) (fun _ _ _ h => h) (Or.inl ⟨by rfl, ?_⟩) (by assumption) ?_
              rotate_left
              · (intro w' hS; (try dsimp only at hS); go_simp; try with_reducible rfl)
              try simp only [Act.put, List.getElem_toArray, List.getElem_cons_succ, List.getElem_cons_zero, List.setIfInBounds_toArray, List.set_cons_zero, List.set_cons_succ]
              refine wpAnyH_take (i := 14) (v := ?_) rfl (by as_aux_lemma => kernel_rfl) (by as_aux_lemma => kernel_rfl) (by as_aux_lemma => kernel_rfl) (fun _ _ _ h => h) (Or.inl ⟨by rfl, ?_⟩) (by assumption) ?_
              rotate_left
              · (intro w' hS; (try dsimp only at hS); go_simp; try with_reducible rfl)
              try simp only [Act.put, List.getElem_toArray, List.getElem_cons_succ, List.getElem_cons_zero, List.setIfInBounds_toArray, List.set_cons_zero, List.set_cons_succ]
              refine wpAnyH_ready (rs := [15]) (by as_aux_lemma => kernel_rfl) (by simp) ?_
              refine AllReadyH.cons rfl (fun K hK => ?_) AllReadyH.nil
              go_simp
              refine (HHl.out _ hHeld.1.2.1).mono ?_
              rintro e wx ⟨rfl, hbx⟩
              go_wp2_with fail
              refine hK.out _ _ (HS.out _ (hHeld.1.on hbx)) (fun hHeld => ?_)
              clear hK K
              try simp only [Act.put, List.getElem_toArray, List.getElem_cons_succ, List.getElem_cons_zero, List.setIfInBounds_toArray, List.set_cons_zero, List.set_cons_succ]
              refine wpAnyH_take (i := 16) (v := ?_) rfl (by as_aux_lemma => kernel_rfl) (by as_aux_lemma => kernel_rfl) (by as_aux_lemma => kernel_rfl) (fun _ _ _ h => h) (Or.inl ⟨by rfl, ?_⟩) (by assumption) ?_
              rotate_left
              · (intro w' hS; (try dsimp only at hS); go_simp; try with_reducible rfl)
              try simp only [Act.put, List.getElem_toArray, List.getElem_cons_succ, List.getElem_cons_zero, List.setIfInBounds_toArray, List.set_cons_zero, List.set_cons_succ]
              refine wpAnyH_take (i := 17) (v := ?_) rfl (by as_aux_lemma => kernel_rfl) (by as_aux_lemma => kernel_rfl) (by as_aux_lemma => kernel_rfl) (fun _ _ _ h => h) (Or.inl ⟨by rfl, ?_⟩) (by assumption) ?_
              rotate_left
              · (intro w' hS; (try dsimp only at hS); go_simp; try with_reducible rfl)
              try simp only [Act.put, List.getElem_toArray, List.getElem_cons_succ, List.getElem_cons_zero, List.setIfInBounds_toArray, List.set_cons_zero, List.set_cons_succ]
              refine wpAnyH_take (i := 18) (v := ?_) rfl (by as_aux_lemma => kernel_rfl) (by as_aux_lemma => kernel_rfl) (by as_aux_lemma => kernel_rfl) (fun _ _ _ h => h) (Or.inl ⟨by rfl, ?_⟩) (by assumption) ?_
              rotate_left
              · (intro w' hS; (try dsimp only at hS); go_simp; try with_reducible rfl)
              try simp only [Act.put, List.getElem_toArray, List.getElem_cons_succ, List.getElem_cons_zero, List.setIfInBounds_toArray, List.set_cons_zero, List.set_cons_succ]
              refine wpAnyH_take (i := 19) (v := ?_) rfl (by as_aux_lemma => kernel_rfl) (by as_aux_lemma => kernel_rfl) (by as_aux_lemma => kernel_rfl) (fun _ _ _ h => h) (Or.inl ⟨by rfl, ?_⟩) (by assumption) ?_
              rotate_left
              · (intro w' hS; (try dsimp only at hS); go_simp; try with_reducible rfl)
              try simp only [Act.put, List.getElem_toArray, List.getElem_cons_succ, List.getElem_cons_zero, List.setIfInBounds_toArray, List.set_cons_zero, List.set_cons_succ]
              refine wpAnyH_take (i := 20) (v := ?_) rfl (by as_aux_lemma => kernel_rfl) (by as_aux_lemma => kernel_rfl) (by as_aux_lemma => kernel_rfl) (fun _ _ _ h => h) (Or.inl ⟨by rfl, ?_⟩) (by assumption) ?_
              rotate_left
              · (intro w' hS; (try dsimp only at hS); go_simp; try with_reducible rfl)
              try simp only [Act.put, List.getElem_toArray, List.getElem_cons_succ, List.getElem_cons_zero, List.setIfInBounds_toArray, List.set_cons_zero, List.set_cons_succ]
              refine wpAnyH_take (i := 21) (v := ?_) rfl (by as_aux_lemma => kernel_rfl) (by as_aux_lemma => kernel_rfl) (by as_aux_lemma => kernel_rfl) (fun _ _ _ h => h) (Or.inl ⟨by rfl, ?_⟩) (by assumption) ?_
              rotate_left
              · (intro w' hS; (try dsimp only at hS); go_simp; try with_reducible rfl)
              try simp only [Act.put, List.getElem_toArray, List.getElem_cons_succ, List.getElem_cons_zero, List.setIfInBounds_toArray, List.set_cons_zero, List.set_cons_succ]
              refine wpAnyH_take (i := 22) (v := ?_) rfl (by as_aux_lemma => kernel_rfl) (by as_aux_lemma => kernel_rfl) (by as_aux_lemma => kernel_rfl) (fun _ _ _ h => h) (Or.inl ⟨by rfl, ?_⟩) (by assumption) ?_
              rotate_left
              · (intro w' hS; (try dsimp only at hS); go_simp; try with_reducible rfl)
              try simp only [Act.put, List.getElem_toArray, List.getElem_cons_succ, List.getElem_cons_zero, List.setIfInBounds_toArray, List.set_cons_zero, List.set_cons_succ]
              refine wpAnyH_take (i := 23) (v := ?_) rfl (by as_aux_lemma => kernel_rfl) (by as_aux_lemma => kernel_rfl) (by as_aux_lemma => kernel_rfl) (fun _ _ _ h => h) (Or.inl ⟨by rfl, ?_⟩) (by assumption) ?_
              rotate_left
              · (intro w' hS; (try dsimp only at hS); go_simp; try with_reducible rfl)
              try simp only [Act.put, List.getElem_toArray, List.getElem_cons_succ, List.getElem_cons_zero, List.setIfInBounds_toArray, List.set_cons_zero, List.set_cons_succ]
              refine wpAnyH_take (i := 24) (v := ?_) rfl (by as_aux_lemma => kernel_rfl) (by as_aux_lemma => kernel_rfl) (by as_aux_lemma => kernel_rfl) (fun _ _ _ h => h) (Or.inl ⟨by rfl, ?_⟩) (by assumption) ?_
              rotate_left
              · (intro w' hS; (try dsimp only at hS); go_simp; try with_reducible rfl)
              try simp only [Act.put, List.getElem_toArray, List.getElem_cons_succ, List.getElem_cons_zero, List.setIfInBounds_toArray, List.set_cons_zero, List.set_cons_succ]
              refine wpAnyH_take (i := 25) (v := ?_) rfl (by as_aux_lemma => kernel_rfl) (by as_aux_lemma => kernel_rfl) (by as_aux_lemma => kernel_rfl) (fun _ _ _ h => h) (Or.inl ⟨by rfl, ?_⟩) (by assumption) ?_
              rotate_left
              · (intro w' hS; (try dsimp only at hS); go_simp; try with_reducible rfl)
              try simp only [Act.put, List.getElem_toArray, List.getElem_cons_succ, List.getElem_cons_zero, List.setIfInBounds_toArray, List.set_cons_zero, List.set_cons_succ]
              refine wpAnyH_take (i := 27) (v := ?_) rfl (by as_aux_lemma => kernel_rfl) (by as_aux_lemma => kernel_rfl) (by as_aux_lemma => kernel_rfl) (fun _ _ _ h => h) (Or.inl ⟨by rfl, ?_⟩) (by assumption) ?_
              rotate_left
              · (intro w' hS; (try dsimp only at hS); go_simp; try with_reducible rfl)
              try simp only [Act.put, List.getElem_toArray, List.getElem_cons_succ, List.getElem_cons_zero, List.setIfInBounds_toArray, List.set_cons_zero, List.set_cons_succ]
              refine wpAnyH_ready (rs := [26]) (by as_aux_lemma => kernel_rfl) (by simp) ?_
              refine AllReadyH.cons rfl (fun K hK => ?_) AllReadyH.nil
              go_simp
              refine (HBa.out _ hHeld.1.2.1).mono ?_
              rintro e wx ⟨rfl, hbx⟩
              go_wp2_with fail
              refine hK.out _ _ (HS.out _ (hHeld.1.on hbx)) (fun hHeld => ?_)
              clear hK K
              try simp only [Act.put, List.getElem_toArray, List.getElem_cons_succ, List.getElem_cons_zero, List.setIfInBounds_toArray, List.set_cons_zero, List.set_cons_succ]
              refine wpAnyH_ready (rs := [28]) (by as_aux_lemma => kernel_rfl) (by simp) ?_
              refine AllReadyH.cons rfl (fun K hK => ?_) AllReadyH.nil
              go_simp
              refine (HEx.out _ hHeld.1.2.1).mono ?_
              rintro e wx ⟨rfl, hbx⟩
              go_wp2_with fail
              refine hK.out _ _ (HS.out _ (hHeld.1.on hbx)) (fun hHeld => ?_)
              clear hK K
              try simp only [Act.put, List.getElem_toArray, List.getElem_cons_succ, List.getElem_cons_zero, List.setIfInBounds_toArray, List.set_cons_zero, List.set_cons_succ]
              refine wpAnyH_take (i := 29) (v := ?_) rfl (by as_aux_lemma => kernel_rfl) (by as_aux_lemma => kernel_rfl) (by as_aux_lemma => kernel_rfl) (fun _ _ _ h => h) (Or.inl ⟨by rfl, ?_⟩) (by assumption) ?_
              rotate_left
              · (intro w' hS; (try dsimp only at hS); go_simp; try with_reducible rfl)
              try simp only [Act.put, List.getElem_toArray, List.getElem_cons_succ, List.getElem_cons_zero, List.setIfInBounds_toArray, List.set_cons_zero, List.set_cons_succ]
              refine wpAnyH_take (i := 30) (v := ?_) rfl (by as_aux_lemma => kernel_rfl) (by as_aux_lemma => kernel_rfl) (by as_aux_lemma => kernel_rfl) (fun _ _ _ h => h) (Or.inl ⟨by rfl, ?_⟩) (by assumption) ?_
              rotate_left
              · (intro w' hS; (try dsimp only at hS); go_simp; try with_reducible rfl)
              try simp only [Act.put, List.getElem_toArray, List.getElem_cons_succ, List.getElem_cons_zero, List.setIfInBounds_toArray, List.set_cons_zero, List.set_cons_succ]
              refine wpAnyH_take (i := 31) (v := ?_) rfl (by as_aux_lemma => kernel_rfl) (by as_aux_lemma => kernel_rfl) (by as_aux_lemma => kernel_rfl) (fun _ _ _ h => h) (Or.inl ⟨by rfl, ?_⟩) (by assumption) ?_
              rotate_left
              · (intro w' hS; (try dsimp only at hS); go_simp; try with_reducible rfl)
              try simp only [Act.put, List.getElem_toArray, List.getElem_cons_succ, List.getElem_cons_zero, List.setIfInBounds_toArray, List.set_cons_zero, List.set_cons_succ]
              refine wpAnyH_take (i := 32) (v := ?_) rfl (by as_aux_lemma => kernel_rfl) (by as_aux_lemma => kernel_rfl) (by as_aux_lemma => kernel_rfl) (fun _ _ _ h => h) (Or.inl ⟨by rfl, ?_⟩) (by assumption) ?_
              rotate_left
              · (intro w' hS; (try dsimp only at hS); go_simp; try with_reducible rfl)
              try simp only [Act.put, List.getElem_toArray, List.getElem_cons_succ, List.getElem_cons_zero, List.setIfInBounds_toArray, List.set_cons_zero, List.set_cons_succ]
              refine wpAnyH_take (i := 33) (v := ?_) rfl (by as_aux_lemma => kernel_rfl) (by as_aux_lemma => kernel_rfl) (by as_aux_lemma => kernel_rfl) (fun _ _ _ h => h) (Or.inl ⟨by rfl, ?_⟩) (by assumption) ?_
              rotate_left
              · (intro w' hS; (try dsimp only at hS); go_simp; try with_reducible rfl)
              try simp only [Act.put, List.getElem_toArray, List.getElem_cons_succ, List.getElem_cons_zero, List.setIfInBounds_toArray, List.set_cons_zero, List.set_cons_succ]
              refine wpAnyH_ready (rs := [34]) (by as_aux_lemma => kernel_rfl) (by simp) ?_
              refine AllReadyH.cons rfl (fun K hK => ?_) AllReadyH.nil
              go_simp
              refine (HRg.out _ hHeld.1.2.2).mono ?_
              rintro e wx ⟨rfl, hbx⟩
              go_wp2_with fail
              refine hK.out _ _ (HS.out _ (hHeld.1.on hbx)) (fun hHeld => ?_)
              clear hK K
              try simp only [Act.put, List.getElem_toArray, List.getElem_cons_succ, List.getElem_cons_zero, List.setIfInBounds_toArray, List.set_cons_zero, List.set_cons_succ]
              refine wpAnyH_take (i := 35) (v := ?_) rfl (by as_aux_lemma => kernel_rfl) (by as_aux_lemma => kernel_rfl) (by as_aux_lemma => kernel_rfl) (fun _ _ _ h => h) (Or.inl ⟨by rfl, ?_⟩) (by assumption) ?_
              rotate_left
              · (intro w' hS; (try dsimp only at hS); go_simp; try with_reducible rfl)
              try simp only [Act.put, List.getElem_toArray, List.getElem_cons_succ, List.getElem_cons_zero, List.setIfInBounds_toArray, List.set_cons_zero, List.set_cons_succ]
              refine wpAnyH_take (i := 36) (v := ?_) rfl (by as_aux_lemma => kernel_rfl) (by as_aux_lemma => kernel_rfl) (by as_aux_lemma => kernel_rfl) (fun _ _ _ h => h) (Or.inl ⟨by rfl, ?_⟩) (by assumption) ?_
              rotate_left
              · (intro w' hS; (try dsimp only at hS); go_simp; try with_reducible rfl)
              try simp only [Act.put, List.getElem_toArray, List.getElem_cons_succ, List.getElem_cons_zero, List.setIfInBounds_toArray, List.set_cons_zero, List.set_cons_succ]
              refine wpAnyH_take (i := 37) (v := ?_) rfl (by as_aux_lemma => kernel_rfl) (by as_aux_lemma => kernel_rfl) (by as_aux_lemma => kernel_rfl) (fun _ _ _ h => h) (Or.inl ⟨by rfl, ?_⟩) (by assumption) ?_
              rotate_left
              · (intro w' hS; (try dsimp only at hS); go_simp; try with_reducible rfl)
              try simp only [Act.put, List.getElem_toArray, List.getElem_cons_succ, List.getElem_cons_zero, List.setIfInBounds_toArray, List.set_cons_zero, List.set_cons_succ]
              refine wpAnyH_done (by as_aux_lemma => kernel_rfl) ?_ _
              refine NoPanic.normal ?_
              have hend := hHeld.1.1
              clear hHeld
              go_wp2
              go_ret
              exact ⟨rfl, hend⟩
            · have h2b : (((hl : Nat) : Int) == 0) = false := by simp; omega
              have h2c : decide (((hl : Nat) : Int) = 0) = false := by simp; omega
              have HSi := Lib.hid (fun W h => show Calls Try.prog 13 #[.agg #[.slice Ar n cr]] W (Bol false W) from by
                have q := HSi.out W h
                simpa [h1, h2] using q)
              clear h1 h2
              refine wp_region_noPanic ?_
              refine wp_region_held_drew (S := (fun W => PE w pr Ar n cr xs pg A5 n5 c5 W ∧ W.cell? ⟨pr, 0, none⟩ = some (.slice Ar n cr) ∧ W.cell? ⟨pg, 0, none⟩ = some (.slice A5 n5 c5))) (by as_aux_lemma => kernel_rfl) (HS.out _ (PE6.out.on (Below.refl _ _).drew)) (fun hHeld => ?_)
              refine wpAnyH_take (i := 0) (v := ?_) rfl (by as_aux_lemma => kernel_rfl) (by as_aux_lemma => kernel_rfl) (by as_aux_lemma => kernel_rfl) (fun _ _ _ h => h) (Or.inl ⟨by rfl, ?_⟩) (by assumption) ?_
              rotate_left
              · (intro w' hS; (try dsimp only at hS); go_simp; try with_reducible rfl)
              try simp only [Act.put, List.getElem_toArray, List.getElem_cons_succ, List.getElem_cons_zero, List.setIfInBounds_toArray, List.set_cons_zero, List.set_cons_succ]
              refine wpAnyH_take (i := 2) (v := ?_) rfl (by as_aux_lemma => kernel_rfl) (by as_aux_lemma => kernel_rfl) (by as_aux_lemma => kernel_rfl) (fun _ _ _ h => h) (Or.inl ⟨by rfl, ?_⟩) (by assumption) ?_
              rotate_left
              · (intro w' hS; (try dsimp only at hS); go_simp; try with_reducible rfl)
              try simp only [Act.put, List.getElem_toArray, List.getElem_cons_succ, List.getElem_cons_zero, List.setIfInBounds_toArray, List.set_cons_zero, List.set_cons_succ]
              refine wpAnyH_take (i := 5) (v := ?_) rfl (by as_aux_lemma => kernel_rfl) (by as_aux_lemma => kernel_rfl) (by as_aux_lemma => kernel_rfl) (fun _ _ _ h => h) (Or.inl ⟨by rfl, ?_⟩) (by assumption) ?_
              rotate_left
              · (intro w' hS; (try dsimp only at hS); go_simp; try with_reducible rfl)
              try simp only [Act.put, List.getElem_toArray, List.getElem_cons_succ, List.getElem_cons_zero, List.setIfInBounds_toArray, List.set_cons_zero, List.set_cons_succ]
              refine wpAnyH_ready (rs := [1]) (by as_aux_lemma => kernel_rfl) (by simp) ?_
              refine AllReadyH.cons rfl (fun K hK => ?_) AllReadyH.nil
              go_simp
              refine (HPc.out _ hHeld.1.2.1).mono ?_
              rintro e wx ⟨rfl, hbx⟩
              go_wp2_with fail
              refine hK.out _ _ (HS.out _ (hHeld.1.on hbx)) (fun hHeld => ?_)
              clear hK K
              try simp only [Act.put, List.getElem_toArray, List.getElem_cons_succ, List.getElem_cons_zero, List.setIfInBounds_toArray, List.set_cons_zero, List.set_cons_succ]
              refine wpAnyH_ready (rs := [3]) (by as_aux_lemma => kernel_rfl) (by simp) ?_
              refine AllReadyH.cons rfl (fun K hK => ?_) AllReadyH.nil
              go_simp
              refine (HHl.out _ hHeld.1.2.1).mono ?_
              rintro e wx ⟨rfl, hbx⟩
              go_wp2_with fail
              refine hK.out _ _ (HS.out _ (hHeld.1.on hbx)) (fun hHeld => ?_)
              clear hK K
              try simp only [Act.put, List.getElem_toArray, List.getElem_cons_succ, List.getElem_cons_zero, List.setIfInBounds_toArray, List.set_cons_zero, List.set_cons_succ]
              refine wpAnyH_take (i := 4) (v := ?_) rfl (by as_aux_lemma => kernel_rfl) (by as_aux_lemma => kernel_rfl) (by as_aux_lemma => kernel_rfl) (fun _ _ _ h => h) (Or.inl ⟨by rfl, ?_⟩) (by assumption) ?_
              rotate_left
              · (intro w' hS; (try dsimp only at hS); go_simp; try with_reducible rfl)
              try simp only [Act.put, List.getElem_toArray, List.getElem_cons_succ, List.getElem_cons_zero, List.setIfInBounds_toArray, List.set_cons_zero, List.set_cons_succ]
              refine wpAnyH_take (i := 6) (v := ?_) rfl (by as_aux_lemma => kernel_rfl) (by as_aux_lemma => kernel_rfl) (by as_aux_lemma => kernel_rfl) (fun _ _ _ h => h) (Or.inl ⟨by rfl, ?_⟩) (by assumption) ?_
              rotate_left
              · (intro w' hS; (try dsimp only at hS); go_simp; try with_reducible rfl)
              try simp only [Act.put, List.getElem_toArray, List.getElem_cons_succ, List.getElem_cons_zero, List.setIfInBounds_toArray, List.set_cons_zero, List.set_cons_succ]
              refine wpAnyH_take (i := 7) (v := ?_) rfl (by as_aux_lemma => kernel_rfl) (by as_aux_lemma => kernel_rfl) (by as_aux_lemma => kernel_rfl) (fun _ _ _ h => h) (Or.inl ⟨by rfl, ?_⟩) (by assumption) ?_
              rotate_left
              · (intro w' hS; (try dsimp only at hS); go_simp; try with_reducible rfl)
              try simp only [Act.put, List.getElem_toArray, List.getElem_cons_succ, List.getElem_cons_zero, List.setIfInBounds_toArray, List.set_cons_zero, List.set_cons_succ]
              refine wpAnyH_take (i := 8) (v := ?_) rfl (by as_aux_lemma => kernel_rfl) (by as_aux_lemma => kernel_rfl) (by as_aux_lemma => kernel_rfl) (fun _ _ _ h => h) (Or.inl ⟨by rfl, ?_⟩) (by assumption) ?_
              rotate_left
              · (intro w' hS; (try dsimp only at hS); go_simp; try with_reducible rfl)
              try simp only [Act.put, List.getElem_toArray, List.getElem_cons_succ, List.getElem_cons_zero, List.setIfInBounds_toArray, List.set_cons_zero, List.set_cons_succ]
              refine wpAnyH_take (i := 10) (v := ?_) rfl (by as_aux_lemma => kernel_rfl) (by as_aux_lemma => kernel_rfl) (by as_aux_lemma => kernel_rfl) (fun _ _ _ h => h) (Or.inl ⟨by rfl, ?_⟩) (by assumption) ?_
              rotate_left
              · (intro w' hS; (try dsimp only at hS); go_simp; try with_reducible rfl)
              try simp only [Act.put, List.getElem_toArray, List.getElem_cons_succ, List.getElem_cons_zero, List.setIfInBounds_toArray, List.set_cons_zero, List.set_cons_succ]
              refine wpAnyH_ready (rs := [9]) (by as_aux_lemma => kernel_rfl) (by simp) ?_
              refine AllReadyH.cons rfl (fun K hK => ?_) AllReadyH.nil
              go_simp
              refine (HSi.out _ hHeld.1.2.1).mono ?_
              rintro e wx ⟨rfl, hbx⟩
              go_wp2_with fail
              refine hK.out _ _ (HS.out _ (hHeld.1.on hbx)) (fun hHeld => ?_)
              clear hK K
              try simp only [Act.put, List.getElem_toArray, List.getElem_cons_succ, List.getElem_cons_zero, List.setIfInBounds_toArray, List.set_cons_zero, List.set_cons_succ]
              refine wpAnyH_ready (rs := [11]) (by as_aux_lemma => kernel_rfl) (by simp) ?_
              refine AllReadyH.cons rfl (fun K hK => ?_) AllReadyH.nil
              go_simp
              refine (HPc.out _ hHeld.1.2.1).mono ?_
              rintro e wx ⟨rfl, hbx⟩
              go_wp2_with fail
              refine hK.out _ _ (HS.out _ (hHeld.1.on hbx)) (fun hHeld => ?_)
              clear hK K
              try simp only [Act.put, List.getElem_toArray, List.getElem_cons_succ, List.getElem_cons_zero, List.setIfInBounds_toArray, List.set_cons_zero, List.set_cons_succ]
              refine wpAnyH_take (i := 12) (v := ?_) rfl (by as_aux_lemma => kernel_rfl) (by as_aux_lemma => kernel_rfl) (by as_aux_lemma => kernel_rfl) (fun _ _ _ h => h) (Or.inl ⟨by rfl, ?_⟩) (by assumption) ?_
              rotate_left
              · (intro w' hS; (try dsimp only at hS); go_simp; try with_reducible rfl)
              try simp only [Act.put, List.getElem_toArray, List.getElem_cons_succ, List.getElem_cons_zero, List.setIfInBounds_toArray, List.set_cons_zero, List.set_cons_succ]
              refine wpAnyH_take (i := 13) (v := ?_) rfl (by as_aux_lemma => kernel_rfl) (by as_aux_lemma => kernel_rfl) (by as_aux_lemma => kernel_rfl) (fun _ _ _ h => h) (Or.inl ⟨by rfl, ?_⟩) (by assumption) ?_
              rotate_left
              · (intro w' hS; (try dsimp only at hS); go_simp; try with_reducible rfl)
              try simp only [Act.put, List.getElem_toArray, List.getElem_cons_succ, List.getElem_cons_zero, List.setIfInBounds_toArray, List.set_cons_zero, List.set_cons_succ]
              refine wpAnyH_take (i := 14) (v := ?_) rfl (by as_aux_lemma => kernel_rfl) (by as_aux_lemma => kernel_rfl) (by as_aux_lemma => kernel_rfl) (fun _ _ _ h => h) (Or.inl ⟨by rfl, ?_⟩) (by assumption) ?_
              rotate_left
              · (intro w' hS; (try dsimp only at hS); go_simp; try with_reducible rfl)
              try simp only [Act.put, List.getElem_toArray, List.getElem_cons_succ, List.getElem_cons_zero, List.setIfInBounds_toArray, List.set_cons_zero, List.set_cons_succ]
              refine wpAnyH_ready (rs := [15]) (by as_aux_lemma => kernel_rfl) (by simp) ?_
              refine AllReadyH.cons rfl (fun K hK => ?_) AllReadyH.nil
              go_simp
              refine (HHl.out _ hHeld.1.2.1).mono ?_
              rintro e wx ⟨rfl, hbx⟩
              go_wp2_with fail
              refine hK.out _ _ (HS.out _ (hHeld.1.on hbx)) (fun hHeld => ?_)
              clear hK K
              try simp only [Act.put, List.getElem_toArray, List.getElem_cons_succ, List.getElem_cons_zero, List.setIfInBounds_toArray, List.set_cons_zero, List.set_cons_succ]
              refine wpAnyH_take (i := 16) (v := ?_) rfl (by as_aux_lemma => kernel_rfl) (by as_aux_lemma => kernel_rfl) (by as_aux_lemma => kernel_rfl) (fun _ _ _ h => h) (Or.inl ⟨by rfl, ?_⟩) (by assumption) ?_
              rotate_left
              · (intro w' hS; (try dsimp only at hS); go_simp; try with_reducible rfl)
              try simp only [Act.put, List.getElem_toArray, List.getElem_cons_succ, List.getElem_cons_zero, List.setIfInBounds_toArray, List.set_cons_zero, List.set_cons_succ]
              refine wpAnyH_take (i := 17) (v := ?_) rfl (by as_aux_lemma => kernel_rfl) (by as_aux_lemma => kernel_rfl) (by as_aux_lemma => kernel_rfl) (fun _ _ _ h => h) (Or.inl ⟨by rfl, ?_⟩) (by assumption) ?_
              rotate_left
              · (intro w' hS; (try dsimp only at hS); go_simp; try with_reducible rfl)
              try simp only [Act.put, List.getElem_toArray, List.getElem_cons_succ, List.getElem_cons_zero, List.setIfInBounds_toArray, List.set_cons_zero, List.set_cons_succ]
              refine wpAnyH_take (i := 18) (v := ?_) rfl (by as_aux_lemma => kernel_rfl) (by as_aux_lemma => kernel_rfl) (by as_aux_lemma => kernel_rfl) (fun _ _ _ h => h) (Or.inl ⟨by rfl, ?_⟩) (by assumption) ?_
              rotate_left
              · (intro w' hS; (try dsimp only at hS); go_simp; try with_reducible rfl)
              try simp only [Act.put, List.getElem_toArray, List.getElem_cons_succ, List.getElem_cons_zero, List.setIfInBounds_toArray, List.set_cons_zero, List.set_cons_succ]
              refine wpAnyH_take (i := 19) (v := undef) rfl (by as_aux_lemma => kernel_rfl) (by as_aux_lemma => kernel_rfl) (by as_aux_lemma => kernel_rfl) (fun _ _ _ h => h) (Or.inr ⟨by rfl, rfl⟩) (by assumption) ?_
              try simp only [Act.put, List.getElem_toArray, List.getElem_cons_succ, List.getElem_cons_zero, List.setIfInBounds_toArray, List.set_cons_zero, List.set_cons_succ]
              refine wpAnyH_take (i := 20) (v := undef) rfl (by as_aux_lemma => kernel_rfl) (by as_aux_lemma => kernel_rfl) (by as_aux_lemma => kernel_rfl) (fun _ _ _ h => h) (Or.inr ⟨by rfl, rfl⟩) (by assumption) ?_
              try simp only [Act.put, List.getElem_toArray, List.getElem_cons_succ, List.getElem_cons_zero, List.setIfInBounds_toArray, List.set_cons_zero, List.set_cons_succ]
              refine wpAnyH_take (i := 21) (v := ?_) rfl (by as_aux_lemma => kernel_rfl) (by as_aux_lemma => kernel_rfl) (by as_aux_lemma => kernel_rfl) (fun _ _ _ h => h) (Or.inl ⟨by rfl, ?_⟩) (by assumption) ?_
              rotate_left
              · (intro w' hS; (try dsimp only at hS); go_simp; try with_reducible rfl)
              try simp only [Act.put, List.getElem_toArray, List.getElem_cons_succ, List.getElem_cons_zero, List.setIfInBounds_toArray, List.set_cons_zero, List.set_cons_succ]
              refine wpAnyH_take (i := 22) (v := ?_) rfl (by as_aux_lemma => kernel_rfl) (by as_aux_lemma => kernel_rfl) (by as_aux_lemma => kernel_rfl) (fun _ _ _ h => h) (Or.inl ⟨by rfl, ?_⟩) (by assumption) ?_
              rotate_left
              · (intro w' hS; (try dsimp only at hS); go_simp; try with_reducible rfl)
              try simp only [Act.put, List.getElem_toArray, List.getElem_cons_succ, List.getElem_cons_zero, List.setIfInBounds_toArray, List.set_cons_zero, List.set_cons_succ]
              refine wpAnyH_take (i := 23) (v := ?_) rfl (by as_aux_lemma => kernel_rfl) (by as_aux_lemma => kernel_rfl) (by as_aux_lemma => kernel_rfl) (fun _ _ _ h => h) (Or.inl ⟨by rfl, ?_⟩) (by assumption) ?_
              rotate_left
              · (intro w' hS; (try dsimp only at hS); go_simp; try with_reducible rfl)
              try simp only [Act.put, List.getElem_toArray, List.getElem_cons_succ, List.getElem_cons_zero, List.setIfInBounds_toArray, List.set_cons_zero, List.set_cons_succ]
              refine wpAnyH_take (i := 24) (v := ?_) rfl (by as_aux_lemma => kernel_rfl) (by as_aux_lemma => kernel_rfl) (by as_aux_lemma => kernel_rfl) (fun _ _ _ h => h) (Or.inl ⟨by rfl, ?_⟩) (by assumption) ?_
              rotate_left
              · (intro w' hS; (try dsimp only at hS); go_simp; try with_reducible rfl)
              try simp only [Act.put, List.getElem_toArray, List.getElem_cons_succ, List.getElem_cons_zero, List.setIfInBounds_toArray, List.set_cons_zero, List.set_cons_succ]
              refine wpAnyH_take (i := 25) (v := ?_) rfl (by as_aux_lemma => kernel_rfl) (by as_aux_lemma => kernel_rfl) (by as_aux_lemma => kernel_rfl) (fun _ _ _ h => h) (Or.inl ⟨by rfl, ?_⟩) (by assumption) ?_
              rotate_left
              · (intro w' hS; (try dsimp only at hS); go_simp; try with_reducible rfl)
              try simp only [Act.put, List.getElem_toArray, List.getElem_cons_succ, List.getElem_cons_zero, List.setIfInBounds_toArray, List.set_cons_zero, List.set_cons_succ]
              refine wpAnyH_take (i := 27) (v := ?_) rfl (by as_aux_lemma => kernel_rfl) (by as_aux_lemma => kernel_rfl) (by as_aux_lemma => kernel_rfl) (fun _ _ _ h => h) (Or.inl ⟨by rfl, ?_⟩) (by assumption) ?_
              rotate_left
              · (intro w' hS; (try dsimp only at hS); go_simp; try with_reducible rfl)
              try simp only [Act.put, List.getElem_toArray, List.getElem_cons_succ, List.getElem_cons_zero, List.setIfInBounds_toArray, List.set_cons_zero, List.set_cons_succ]
              refine wpAnyH_ready (rs := [26]) (by as_aux_lemma => kernel_rfl) (by simp) ?_
              refine AllReadyH.cons rfl (fun K hK => ?_) AllReadyH.nil
              go_simp
              refine (HBa.out _ hHeld.1.2.1).mono ?_
              rintro e wx ⟨rfl, hbx⟩
              go_wp2_with fail
              refine hK.out _ _ (HS.out _ (hHeld.1.on hbx)) (fun hHeld => ?_)
              clear hK K
              try simp only [Act.put, List.getElem_toArray, List.getElem_cons_succ, List.getElem_cons_zero, List.setIfInBounds_toArray, List.set_cons_zero, List.set_cons_succ]
              refine wpAnyH_ready (rs := [28]) (by as_aux_lemma => kernel_rfl) (by simp) ?_
              refine AllReadyH.cons rfl (fun K hK => ?_) AllReadyH.nil
              go_simp
              refine (HEx.out _ hHeld.1.2.1).mono ?_
              rintro e wx ⟨rfl, hbx⟩
              go_wp2_with fail
              refine hK.out _ _ (HS.out _ (hHeld.1.on hbx)) (fun hHeld => ?_)
              clear hK K
              try simp only [Act.put, List.getElem_toArray, List.getElem_cons_succ, List.getElem_cons_zero, List.setIfInBounds_toArray, List.set_cons_zero, List.set_cons_succ]
              refine wpAnyH_take (i := 29) (v := ?_) rfl (by as_aux_lemma => kernel_rfl) (by as_aux_lemma => kernel_rfl) (by as_aux_lemma => kernel_rfl) (fun _ _ _ h => h) (Or.inl ⟨by rfl, ?_⟩) (by assumption) ?_
              rotate_left
              · (intro w' hS; (try dsimp only at hS); go_simp; try with_reducible rfl)
              try simp only [Act.put, List.getElem_toArray, List.getElem_cons_succ, List.getElem_cons_zero, List.setIfInBounds_toArray, List.set_cons_zero, List.set_cons_succ]
              refine wpAnyH_take (i := 30) (v := ?_) rfl (by as_aux_lemma => kernel_rfl) (by as_aux_lemma => kernel_rfl) (by as_aux_lemma => kernel_rfl) (fun _ _ _ h => h) (Or.inl ⟨by rfl, ?_⟩) (by assumption) ?_
              rotate_left
              · (intro w' hS; (try dsimp only at hS); go_simp; try with_reducible rfl)
              try simp only [Act.put, List.getElem_toArray, List.getElem_cons_succ, List.getElem_cons_zero, List.setIfInBounds_toArray, List.set_cons_zero, List.set_cons_succ]
              refine wpAnyH_take (i := 31) (v := ?_) rfl (by as_aux_lemma => kernel_rfl) (by as_aux_lemma => kernel_rfl) (by as_aux_lemma => kernel_rfl) (fun _ _ _ h => h) (Or.inl ⟨by rfl, ?_⟩) (by assumption) ?_
              rotate_left
              · (intro w' hS; (try dsimp only at hS); go_simp; try with_reducible rfl)
              try simp only [Act.put, List.getElem_toArray, List.getElem_cons_succ, List.getElem_cons_zero, List.setIfInBounds_toArray, List.set_cons_zero, List.set_cons_succ]
              refine wpAnyH_take (i := 32) (v := ?_) rfl (by as_aux_lemma => kernel_rfl) (by as_aux_lemma => kernel_rfl) (by as_aux_lemma => kernel_rfl) (fun _ _ _ h => h) (Or.inl ⟨by rfl, ?_⟩) (by assumption) ?_
              rotate_left
              · (intro w' hS; (try dsimp only at hS); go_simp; try with_reducible rfl)
              try simp only [Act.put, List.getElem_toArray, List.getElem_cons_succ, List.getElem_cons_zero, List.setIfInBounds_toArray, List.set_cons_zero, List.set_cons_succ]
              refine wpAnyH_take (i := 33) (v := ?_) rfl (by as_aux_lemma => kernel_rfl) (by as_aux_lemma => kernel_rfl) (by as_aux_lemma => kernel_rfl) (fun _ _ _ h => h) (Or.inl ⟨by rfl, ?_⟩) (by assumption) ?_
              rotate_left
              · (intro w' hS; (try dsimp only at hS); go_simp; try with_reducible rfl)
              try simp only [Act.put, List.getElem_toArray, List.getElem_cons_succ, List.getElem_cons_zero, List.setIfInBounds_toArray, List.set_cons_zero, List.set_cons_succ]
              refine wpAnyH_ready (rs := [34]) (by as_aux_lemma => kernel_rfl) (by simp) ?_
              refine AllReadyH.cons rfl (fun K hK => ?_) AllReadyH.nil
              go_simp
              refine (HRg.out _ hHeld.1.2.2).mono ?_
              rintro e wx ⟨rfl, hbx⟩
              go_wp2_with fail
              refine hK.out _ _ (HS.out _ (hHeld.1.on hbx)) (fun hHeld => ?_)
              clear hK K
              try simp only [Act.put, List.getElem_toArray, List.getElem_cons_succ, List.getElem_cons_zero, List.setIfInBounds_toArray, List.set_cons_zero, List.set_cons_succ]
              refine wpAnyH_take (i := 35) (v := ?_) rfl (by as_aux_lemma => kernel_rfl) (by as_aux_lemma => kernel_rfl) (by as_aux_lemma => kernel_rfl) (fun _ _ _ h => h) (Or.inl ⟨by rfl, ?_⟩) (by assumption) ?_
              rotate_left
              · (intro w' hS; (try dsimp only at hS); go_simp; try with_reducible rfl)
              try simp only [Act.put, List.getElem_toArray, List.getElem_cons_succ, List.getElem_cons_zero, List.setIfInBounds_toArray, List.set_cons_zero, List.set_cons_succ]
              refine wpAnyH_take (i := 36) (v := ?_) rfl (by as_aux_lemma => kernel_rfl) (by as_aux_lemma => kernel_rfl) (by as_aux_lemma => kernel_rfl) (fun _ _ _ h => h) (Or.inl ⟨by rfl, ?_⟩) (by assumption) ?_
              rotate_left
              · (intro w' hS; (try dsimp only at hS); go_simp; try with_reducible rfl)
              try simp only [Act.put, List.getElem_toArray, List.getElem_cons_succ, List.getElem_cons_zero, List.setIfInBounds_toArray, List.set_cons_zero, List.set_cons_succ]
              refine wpAnyH_take (i := 37) (v := ?_) rfl (by as_aux_lemma => kernel_rfl) (by as_aux_lemma => kernel_rfl) (by as_aux_lemma => kernel_rfl) (fun _ _ _ h => h) (Or.inl ⟨by rfl, ?_⟩) (by assumption) ?_
              rotate_left
              · (intro w' hS; (try dsimp only at hS); go_simp; try with_reducible rfl)
              try simp only [Act.put, List.getElem_toArray, List.getElem_cons_succ, List.getElem_cons_zero, List.setIfInBounds_toArray, List.set_cons_zero, List.set_cons_succ]
              refine wpAnyH_done (by as_aux_lemma => kernel_rfl) ?_ _
              refine NoPanic.normal ?_
              have hend := hHeld.1.1
              clear hHeld
              go_wp2
              go_ret
              exact ⟨rfl, hend⟩
          · have h1b : (((pn : Nat) : Int) == 1) = false := by simp; omega
            have h1c : decide (((pn : Nat) : Int) = 1) = false := by simp; omega
            have HSi := Lib.hid (fun W h => show Calls Try.prog 13 #[.agg #[.slice Ar n cr]] W (Bol false W) from by
              have q := HSi.out W h
              simpa [h1] using q)
            clear h1
            refine wp_region_noPanic ?_
            refine wp_region_held_drew (S := (fun W => PE w pr Ar n cr xs pg A5 n5 c5 W ∧ W.cell? ⟨pr, 0, none⟩ = some (.slice Ar n cr) ∧ W.cell? ⟨pg, 0, none⟩ = some (.slice A5 n5 c5))) (by as_aux_lemma => kernel_rfl) (HS.out _ (PE6.out.on (Below.refl _ _).drew)) (fun hHeld => ?_)
            refine wpAnyH_take (i := 0) (v := ?_) rfl (by as_aux_lemma => kernel_rfl) (by as_aux_lemma => kernel_rfl) (by as_aux_lemma => kernel_rfl) (fun _ _ _ h => h) (Or.inl ⟨by rfl, ?_⟩) (by assumption) ?_
            rotate_left
            · (intro w' hS; (try dsimp only at hS); go_simp; try with_reducible rfl)
            try simp only [Act.put, List.getElem_toArray, List.getElem_cons_succ, List.getElem_cons_zero, List.setIfInBounds_toArray, List.set_cons_zero, List.set_cons_succ]
            refine wpAnyH_take (i := 2) (v := ?_) rfl (by as_aux_lemma => kernel_rfl) (by as_aux_lemma => kernel_rfl) (by as_aux_lemma => kernel_rfl) (fun _ _ _ h => h) (Or.inl ⟨by rfl, ?_⟩) (by assumption) ?_
            rotate_left
            · (intro w' hS; (try dsimp only at hS); go_simp; try with_reducible rfl)
            try simp only [Act.put, List.getElem_toArray, List.getElem_cons_succ, List.getElem_cons_zero, List.setIfInBounds_toArray, List.set_cons_zero, List.set_cons_succ]
            refine wpAnyH_take (i := 5) (v := ?_) rfl (by as_aux_lemma => kernel_rfl) (by as_aux_lemma => kernel_rfl) (by as_aux_lemma => kernel_rfl) (fun _ _ _ h => h) (Or.inl ⟨by rfl, ?_⟩) (by assumption) ?_
            rotate_left
            · (intro w' hS; (try dsimp only at hS); go_simp; try with_reducible rfl)
            try simp only [Act.put, List.getElem_toArray, List.getElem_cons_succ, List.getElem_cons_zero, List.setIfInBounds_toArray, List.set_cons_zero, List.set_cons_succ]
            refine wpAnyH_ready (rs := [1]) (by as_aux_lemma => kernel_rfl) (by simp) ?_
            refine AllReadyH.cons rfl (fun K hK => ?_) AllReadyH.nil
            go_simp
            refine (HPc.out _ hHeld.1.2.1).mono ?_
            rintro e wx ⟨rfl, hbx⟩
            go_wp2_with fail
            refine hK.out _ _ (HS.out _ (hHeld.1.on hbx)) (fun hHeld => ?_)
            clear hK K
            try simp only [Act.put, List.getElem_toArray, List.getElem_cons_succ, List.getElem_cons_zero, List.setIfInBounds_toArray, List.set_cons_zero, List.set_cons_succ]
            refine wpAnyH_ready (rs := [3]) (by as_aux_lemma => kernel_rfl) (by simp) ?_
            refine AllReadyH.cons rfl (fun K hK => ?_) AllReadyH.nil
            go_simp
            refine (HHl.out _ hHeld.1.2.1).mono ?_
            rintro e wx ⟨rfl, hbx⟩
            go_wp2_with fail
            refine hK.out _ _ (HS.out _ (hHeld.1.on hbx)) (fun hHeld => ?_)
            clear hK K
            try simp only [Act.put, List.getElem_toArray, List.getElem_cons_succ, List.getElem_cons_zero, List.setIfInBounds_toArray, List.set_cons_zero, List.set_cons_succ]
            refine wpAnyH_take (i := 4) (v := ?_) rfl (by as_aux_lemma => kernel_rfl) (by as_aux_lemma => kernel_rfl) (by as_aux_lemma => kernel_rfl) (fun _ _ _ h => h) (Or.inl ⟨by rfl, ?_⟩) (by assumption) ?_
            rotate_left
            · (intro w' hS; (try dsimp only at hS); go_simp; try with_reducible rfl)
            try simp only [Act.put, List.getElem_toArray, List.getElem_cons_succ, List.getElem_cons_zero, List.setIfInBounds_toArray, List.set_cons_zero, List.set_cons_succ]
            refine wpAnyH_take (i := 6) (v := ?_) rfl (by as_aux_lemma => kernel_rfl) (by as_aux_lemma => kernel_rfl) (by as_aux_lemma => kernel_rfl) (fun _ _ _ h => h) (Or.inl ⟨by rfl, ?_⟩) (by assumption) ?_
            rotate_left
            · (intro w' hS; (try dsimp only at hS); go_simp; try with_reducible rfl)
            try simp only [Act.put, List.getElem_toArray, List.getElem_cons_succ, List.getElem_cons_zero, List.setIfInBounds_toArray, List.set_cons_zero, List.set_cons_succ]
            refine wpAnyH_take (i := 7) (v := ?_) rfl (by as_aux_lemma => kernel_rfl) (by as_aux_lemma => kernel_rfl) (by as_aux_lemma => kernel_rfl) (fun _ _ _ h => h) (Or.inl ⟨by rfl, ?_⟩) (by assumption) ?_
            rotate_left
            · (intro w' hS; (try dsimp only at hS); go_simp; try with_reducible rfl)
            try simp only [Act.put, List.getElem_toArray, List.getElem_cons_succ, List.getElem_cons_zero, List.setIfInBounds_toArray, List.set_cons_zero, List.set_cons_succ]
            refine wpAnyH_take (i := 8) (v := ?_) rfl (by as_aux_lemma => kernel_rfl) (by as_aux_lemma => kernel_rfl) (by as_aux_lemma => kernel_rfl) (fun _ _ _ h => h) (Or.inl ⟨by rfl, ?_⟩) (by assumption) ?_
            rotate_left
            · (intro w' hS; (try dsimp only at hS); go_simp; try with_reducible rfl)
            try simp only [Act.put, List.getElem_toArray, List.getElem_cons_succ, List.getElem_cons_zero, List.setIfInBounds_toArray, List.set_cons_zero, List.set_cons_succ]
            refine wpAnyH_take (i := 10) (v := ?_) rfl (by as_aux_lemma => kernel_rfl) (by as_aux_lemma => kernel_rfl) (by as_aux_lemma => kernel_rfl) (fun _ _ _ h => h) (Or.inl ⟨by rfl, ?_⟩) (by assumption) ?_
            rotate_left
            · (intro w' hS; (try dsimp only at hS); go_simp; try with_reducible rfl)
            try simp only [Act.put, List.getElem_toArray, List.getElem_cons_succ, List.getElem_cons_zero, List.setIfInBounds_toArray, List.set_cons_zero, List.set_cons_succ]
            refine wpAnyH_ready (rs := [9]) (by as_aux_lemma => kernel_rfl) (by simp) ?_
            refine AllReadyH.cons rfl (fun K hK => ?_) AllReadyH.nil
            go_simp
            refine (HSi.out _ hHeld.1.2.1).mono ?_
            rintro e wx ⟨rfl, hbx⟩
            go_wp2_with fail
            refine hK.out _ _ (HS.out _ (hHeld.1.on hbx)) (fun hHeld => ?_)
            clear hK K
            try simp only [Act.put, List.getElem_toArray, List.getElem_cons_succ, List.getElem_cons_zero, List.setIfInBounds_toArray, List.set_cons_zero, List.set_cons_succ]
            refine wpAnyH_ready (rs := [11]) (by as_aux_lemma => kernel_rfl) (by simp) ?_
            refine AllReadyH.cons rfl (fun K hK => ?_) AllReadyH.nil
            go_simp
            refine (HPc.out _ hHeld.1.2.1).mono ?_
            rintro e wx ⟨rfl, hbx⟩
            go_wp2_with fail
            refine hK.out _ _ (HS.out _ (hHeld.1.on hbx)) (fun hHeld => ?_)
            clear hK K
            try simp only [Act.put, List.getElem_toArray, List.getElem_cons_succ, List.getElem_cons_zero, List.setIfInBounds_toArray, List.set_cons_zero, List.set_cons_succ]
            refine wpAnyH_take (i := 12) (v := ?_) rfl (by as_aux_lemma => kernel_rfl) (by as_aux_lemma => kernel_rfl) (by as_aux_lemma => kernel_rfl) (fun _ _ _ h => h) (Or.inl ⟨by rfl, ?_⟩) (by assumption) ?_
            rotate_left
            · (intro w' hS; (try dsimp only at hS); go_simp; try with_reducible rfl)
            try simp only [Act.put, List.getElem_toArray, List.getElem_cons_succ, List.getElem_cons_zero, List.setIfInBounds_toArray, List.set_cons_zero, List.set_cons_succ]
            refine wpAnyH_take (i := 13) (v := ?_) rfl (by as_aux_lemma => kernel_rfl) (by as_aux_lemma => kernel_rfl) (by as_aux_lemma => kernel_rfl) (fun _ _ _ h => h) (Or.inl ⟨by rfl, ?_⟩) (by assumption) ?_
            rotate_left
            · (intro w' hS; (try dsimp only at hS); go_simp; try with_reducible rfl)
            try simp only [Act.put, List.getElem_toArray, List.getElem_cons_succ, List.getElem_cons_zero, List.setIfInBounds_toArray, List.set_cons_zero, List.set_cons_succ]
            refine wpAnyH_take (i := 14) (v := undef) rfl (by as_aux_lemma => kernel_rfl) (by as_aux_lemma => kernel_rfl) (by as_aux_lemma => kernel_rfl) (fun _ _ _ h => h) (Or.inr ⟨by rfl, rfl⟩) (by assumption) ?_
            try simp only [Act.put, List.getElem_toArray, List.getElem_cons_succ, List.getElem_cons_zero, List.setIfInBounds_toArray, List.set_cons_zero, List.set_cons_succ]
            refine wpAnyH_take (i := 15) (v := undef) rfl (by as_aux_lemma => kernel_rfl) (by as_aux_lemma => kernel_rfl) (by as_aux_lemma => kernel_rfl) (fun _ _ _ h => h) (Or.inr ⟨by rfl, rfl⟩) (by assumption) ?_
            try simp only [Act.put, List.getElem_toArray, List.getElem_cons_succ, List.getElem_cons_zero, List.setIfInBounds_toArray, List.set_cons_zero, List.set_cons_succ]
            refine wpAnyH_take (i := 16) (v := undef) rfl (by as_aux_lemma => kernel_rfl) (by as_aux_lemma => kernel_rfl) (by as_aux_lemma => kernel_rfl) (fun _ _ _ h => h) (Or.inr ⟨by rfl, rfl⟩) (by assumption) ?_
            try simp only [Act.put, List.getElem_toArray, List.getElem_cons_succ, List.getElem_cons_zero, List.setIfInBounds_toArray, List.set_cons_zero, List.set_cons_succ]
            refine wpAnyH_take (i := 17) (v := ?_) rfl (by as_aux_lemma => kernel_rfl) (by as_aux_lemma => kernel_rfl) (by as_aux_lemma => kernel_rfl) (fun _ _ _ h => h) (Or.inl ⟨by rfl, ?_⟩) (by assumption) ?_
            rotate_left
            · (intro w' hS; (try dsimp only at hS); go_simp; try with_reducible rfl)
            try simp only [Act.put, List.getElem_toArray, List.getElem_cons_succ, List.getElem_cons_zero, List.setIfInBounds_toArray, List.set_cons_zero, List.set_cons_succ]
            refine wpAnyH_take (i := 18) (v := ?_) rfl (by as_aux_lemma => kernel_rfl) (by as_aux_lemma => kernel_rfl) (by as_aux_lemma => kernel_rfl) (fun _ _ _ h => h) (Or.inl ⟨by rfl, ?_⟩) (by assumption) ?_
            rotate_left
            · (intro w' hS; (try dsimp only at hS); go_simp; try with_reducible rfl)
            try simp only [Act.put, List.getElem_toArray, List.getElem_cons_succ, List.getElem_cons_zero, List.setIfInBounds_toArray, List.set_cons_zero, List.set_cons_succ]
            refine wpAnyH_take (i := 19) (v := undef) rfl (by as_aux_lemma => kernel_rfl) (by as_aux_lemma => kernel_rfl) (by as_aux_lemma => kernel_rfl) (fun _ _ _ h => h) (Or.inr ⟨by rfl, rfl⟩) (by assumption) ?_
            try simp only [Act.put, List.getElem_toArray, List.getElem_cons_succ, List.getElem_cons_zero, List.setIfInBounds_toArray, List.set_cons_zero, List.set_cons_succ]
            refine wpAnyH_take (i := 20) (v := undef) rfl (by as_aux_lemma => kernel_rfl) (by as_aux_lemma => kernel_rfl) (by as_aux_lemma => kernel_rfl) (fun _ _ _ h => h) (Or.inr ⟨by rfl, rfl⟩) (by assumption) ?_
            try simp only [Act.put, List.getElem_toArray, List.getElem_cons_succ, List.getElem_cons_zero, List.setIfInBounds_toArray, List.set_cons_zero, List.set_cons_succ]
            refine wpAnyH_take (i := 21) (v := ?_) rfl (by as_aux_lemma => kernel_rfl) (by as_aux_lemma => kernel_rfl) (by as_aux_lemma => kernel_rfl) (fun _ _ _ h => h) (Or.inl ⟨by rfl, ?_⟩) (by assumption) ?_
            rotate_left
            · (intro w' hS; (try dsimp only at hS); go_simp; try with_reducible rfl)
            try simp only [Act.put, List.getElem_toArray, List.getElem_cons_succ, List.getElem_cons_zero, List.setIfInBounds_toArray, List.set_cons_zero, List.set_cons_succ]
            refine wpAnyH_take (i := 22) (v := ?_) rfl (by as_aux_lemma => kernel_rfl) (by as_aux_lemma => kernel_rfl) (by as_aux_lemma => kernel_rfl) (fun _ _ _ h => h) (Or.inl ⟨by rfl, ?_⟩) (by assumption) ?_
            rotate_left
            · (intro w' hS; (try dsimp only at hS); go_simp; try with_reducible rfl)
            try simp only [Act.put, List.getElem_toArray, List.getElem_cons_succ, List.getElem_cons_zero, List.setIfInBounds_toArray, List.set_cons_zero, List.set_cons_succ]
            refine wpAnyH_take (i := 23) (v := ?_) rfl (by as_aux_lemma => kernel_rfl) (by as_aux_lemma => kernel_rfl) (by as_aux_lemma => kernel_rfl) (fun _ _ _ h => h) (Or.inl ⟨by rfl, ?_⟩) (by assumption) ?_
            rotate_left
            · (intro w' hS; (try dsimp only at hS); go_simp; try with_reducible rfl)
            try simp only [Act.put, List.getElem_toArray, List.getElem_cons_succ, List.getElem_cons_zero, List.setIfInBounds_toArray, List.set_cons_zero, List.set_cons_succ]
            refine wpAnyH_take (i := 24) (v := ?_) rfl (by as_aux_lemma => kernel_rfl) (by as_aux_lemma => kernel_rfl) (by as_aux_lemma => kernel_rfl) (fun _ _ _ h => h) (Or.inl ⟨by rfl, ?_⟩) (by assumption) ?_
            rotate_left
            · (intro w' hS; (try dsimp only at hS); go_simp; try with_reducible rfl)
            try simp only [Act.put, List.getElem_toArray, List.getElem_cons_succ, List.getElem_cons_zero, List.setIfInBounds_toArray, List.set_cons_zero, List.set_cons_succ]
            refine wpAnyH_take (i := 25) (v := ?_) rfl (by as_aux_lemma => kernel_rfl) (by as_aux_lemma => kernel_rfl) (by as_aux_lemma => kernel_rfl) (fun _ _ _ h => h) (Or.inl ⟨by rfl, ?_⟩) (by assumption) ?_
            rotate_left
            · (intro w' hS; (try dsimp only at hS); go_simp; try with_reducible rfl)
            try simp only [Act.put, List.getElem_toArray, List.getElem_cons_succ, List.getElem_cons_zero, List.setIfInBounds_toArray, List.set_cons_zero, List.set_cons_succ]
            refine wpAnyH_take (i := 27) (v := ?_) rfl (by as_aux_lemma => kernel_rfl) (by as_aux_lemma => kernel_rfl) (by as_aux_lemma => kernel_rfl) (fun _ _ _ h => h) (Or.inl ⟨by rfl, ?_⟩) (by assumption) ?_
            rotate_left
            · (intro w' hS; (try dsimp only at hS); go_simp; try with_reducible rfl)
            try simp only [Act.put, List.getElem_toArray, List.getElem_cons_succ, List.getElem_cons_zero, List.setIfInBounds_toArray, List.set_cons_zero, List.set_cons_succ]
            refine wpAnyH_ready (rs := [26]) (by as_aux_lemma => kernel_rfl) (by simp) ?_
            refine AllReadyH.cons rfl (fun K hK => ?_) AllReadyH.nil
            go_simp
            refine (HBa.out _ hHeld.1.2.1).mono ?_
            rintro e wx ⟨rfl, hbx⟩
            go_wp2_with fail
            refine hK.out _ _ (HS.out _ (hHeld.1.on hbx)) (fun hHeld => ?_)
            clear hK K
            try simp only [Act.put, List.getElem_toArray, List.getElem_cons_succ, List.getElem_cons_zero, List.setIfInBounds_toArray, List.set_cons_zero, List.set_cons_succ]
            refine wpAnyH_ready (rs := [28]) (by as_aux_lemma => kernel_rfl) (by simp) ?_
            refine AllReadyH.cons rfl (fun K hK => ?_) AllReadyH.nil
            go_simp
            refine (HEx.out _ hHeld.1.2.1).mono ?_
            rintro e wx ⟨rfl, hbx⟩
            go_wp2_with fail
            refine hK.out _ _ (HS.out _ (hHeld.1.on hbx)) (fun hHeld => ?_)
            clear hK K
            try simp only [Act.put, List.getElem_toArray, List.getElem_cons_succ, List.getElem_cons_zero, List.setIfInBounds_toArray, List.set_cons_zero, List.set_cons_succ]
            refine wpAnyH_take (i := 29) (v := ?_) rfl (by as_aux_lemma => kernel_rfl) (by as_aux_lemma => kernel_rfl) (by as_aux_lemma => kernel_rfl) (fun _ _ _ h => h) (Or.inl ⟨by rfl, ?_⟩) (by assumption) ?_
            rotate_left
            · (intro w' hS; (try dsimp only at hS); go_simp; try with_reducible rfl)
            try simp only [Act.put, List.getElem_toArray, List.getElem_cons_succ, List.getElem_cons_zero, List.setIfInBounds_toArray, List.set_cons_zero, List.set_cons_succ]
            refine wpAnyH_take (i := 30) (v := ?_) rfl (by as_aux_lemma => kernel_rfl) (by as_aux_lemma => kernel_rfl) (by as_aux_lemma => kernel_rfl) (fun _ _ _ h => h) (Or.inl ⟨by rfl, ?_⟩) (by assumption) ?_
            rotate_left
            · (intro w' hS; (try dsimp only at hS); go_simp; try with_reducible rfl)
            try simp only [Act.put, List.getElem_toArray, List.getElem_cons_succ, List.getElem_cons_zero, List.setIfInBounds_toArray, List.set_cons_zero, List.set_cons_succ]
            refine wpAnyH_take (i := 31) (v := ?_) rfl (by as_aux_lemma => kernel_rfl) (by as_aux_lemma => kernel_rfl) (by as_aux_lemma => kernel_rfl) (fun _ _ _ h => h) (Or.inl ⟨by rfl, ?_⟩) (by assumption) ?_
            rotate_left
            · (intro w' hS; (try dsimp only at hS); go_simp; try with_reducible rfl)
            try simp only [Act.put, List.getElem_toArray, List.getElem_cons_succ, List.getElem_cons_zero, List.setIfInBounds_toArray, List.set_cons_zero, List.set_cons_succ]
            refine wpAnyH_take (i := 32) (v := ?_) rfl (by as_aux_lemma => kernel_rfl) (by as_aux_lemma => kernel_rfl) (by as_aux_lemma => kernel_rfl) (fun _ _ _ h => h) (Or.inl ⟨by rfl, ?_⟩) (by assumption) ?_
            rotate_left
            · (intro w' hS; (try dsimp only at hS); go_simp; try with_reducible rfl)
            try simp only [Act.put, List.getElem_toArray, List.getElem_cons_succ, List.getElem_cons_zero, List.setIfInBounds_toArray, List.set_cons_zero, List.set_cons_succ]
            refine wpAnyH_take (i := 33) (v := ?_) rfl (by as_aux_lemma => kernel_rfl) (by as_aux_lemma => kernel_rfl) (by as_aux_lemma => kernel_rfl) (fun _ _ _ h => h) (Or.inl ⟨by rfl, ?_⟩) (by assumption) ?_
            rotate_left
            · (intro w' hS; (try dsimp only at hS); go_simp; try with_reducible rfl)
            try simp only [Act.put, List.getElem_toArray, List.getElem_cons_succ, List.getElem_cons_zero, List.setIfInBounds_toArray, List.set_cons_zero, List.set_cons_succ]
            refine wpAnyH_ready (rs := [34]) (by as_aux_lemma => kernel_rfl) (by simp) ?_
            refine AllReadyH.cons rfl (fun K hK => ?_) AllReadyH.nil
            go_simp
            refine (HRg.out _ hHeld.1.2.2).mono ?_
            rintro e wx ⟨rfl, hbx⟩
            go_wp2_with fail
            refine hK.out _ _ (HS.out _ (hHeld.1.on hbx)) (fun hHeld => ?_)
            clear hK K
            try simp only [Act.put, List.getElem_toArray, List.getElem_cons_succ, List.getElem_cons_zero, List.setIfInBounds_toArray, List.set_cons_zero, List.set_cons_succ]
            refine wpAnyH_take (i := 35) (v := ?_) rfl (by as_aux_lemma => kernel_rfl) (by as_aux_lemma => kernel_rfl) (by as_aux_lemma => kernel_rfl) (fun _ _ _ h => h) (Or.inl ⟨by rfl, ?_⟩) (by assumption) ?_
            rotate_left
            · (intro w' hS; (try dsimp only at hS); go_simp; try with_reducible rfl)
            try simp only [Act.put, List.getElem_toArray, List.getElem_cons_succ, List.getElem_cons_zero, List.setIfInBounds_toArray, List.set_cons_zero, List.set_cons_succ]
            refine wpAnyH_take (i := 36) (v := ?_) rfl (by as_aux_lemma => kernel_rfl) (by as_aux_lemma => kernel_rfl) (by as_aux_lemma => kernel_rfl) (fun _ _ _ h => h) (Or.inl ⟨by rfl, ?_⟩) (by assumption) ?_
            rotate_left
            · (intro w' hS; (try dsimp only at hS); go_simp; try with_reducible rfl)
            try simp only [Act.put, List.getElem_toArray, List.getElem_cons_succ, List.getElem_cons_zero, List.setIfInBounds_toArray, List.set_cons_zero, List.set_cons_succ]
            refine wpAnyH_take (i := 37) (v := ?_) rfl (by as_aux_lemma => kernel_rfl) (by as_aux_lemma => kernel_rfl) (by as_aux_lemma => kernel_rfl) (fun _ _ _ h => h) (Or.inl ⟨by rfl, ?_⟩) (by assumption) ?_
            rotate_left
            · (intro w' hS; (try dsimp only at hS); go_simp; try with_reducible rfl)
            try simp only [Act.put, List.getElem_toArray, List.getElem_cons_succ, List.getElem_cons_zero, List.setIfInBounds_toArray, List.set_cons_zero, List.set_cons_succ]
            refine wpAnyH_done (by as_aux_lemma => kernel_rfl) ?_ _
            refine NoPanic.normal ?_
            have hend := hHeld.1.1
            clear hHeld
            go_wp2
            go_ret
            exact ⟨rfl, hend⟩
    · rw [okRB_not ho]
      have HSf := Lib.hid (show simB xs = false from decide_eq_false (fun q => ho q.1))
      have HP1 := Lib.hid one_piece
      clear ho
      go_wp2_with fail
      refine (iIsSimple w2 Ar n cr w2.heap.size xs HX.out hnI R2.2 (Nat.le_refl _)).mono ?_
      rintro e w3 ⟨rfl, hb3⟩
      have hbw3 := hbw.trans (hb3.mono hbw.size)
      rw [HSf.out]
      clear R2 hb3 hbw c0
      go_wp2_with fail
      refine (iRectangle w3 1 1).mono ?_
      rintro e w4 ⟨A4, c4, rfl, hown, hb4⟩
      have hbw4 := hbw3.trans (hb4.mono hbw3.size)
      have HR4 := Lib.hid (rowB_own hown)
      have hl4 := rectR_length 1 1
      clear hown hb4 hbw3
      go_wp2_with fail
      refine (iCountPieces w4 A4 (rectR 1 1).length c4 w4.heap.size (rectR 1 1) rfl (by omega) HR4.out (Nat.le_refl _)).mono ?_
      rintro e w5 ⟨rfl, hb5⟩
      have hbw5 := hbw4.trans (hb5.mono hbw4.size)
      rw [HP1.out]
      clear hb5 HR4 hl4 hbw4
      go_wp2
      go_ret
      exact ⟨rfl, hbw5⟩
end Go.Proofs.Ytocjnplbjdpieaa.Pieces
