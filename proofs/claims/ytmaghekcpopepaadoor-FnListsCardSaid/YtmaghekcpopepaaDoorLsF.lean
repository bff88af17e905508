/- FnLists: a list has every tiling once, in order: for whatever code, the law returns true. -/
import Derived.Test.YtmaghekcpopepaaDoorLstF
import Derived.Test.YtmaghekcpopepaaDoorTilT
import Derived.Test.YtmaghekcpopepaaDoorMgDrw
import Derived.Test.YtmaghekcpopepaaDoorMgCtS
namespace Go.Proofs.YtmaghekcpopepaaDoor.Lst
set_option linter.unusedVariables false
set_option linter.unusedSimpArgs false
set_option maxRecDepth 100000
open Go.RowKit Go.Proofs.YtmaghekcpopepaaDoor.Base Go.Proofs.YtmaghekcpopepaaDoor.Pure Go.Proofs.YtmaghekcpopepaaDoor.Cell Go.Proofs.YtmaghekcpopepaaDoor.Cels Go.Proofs.YtmaghekcpopepaaDoor.Dom Go.Proofs.YtmaghekcpopepaaDoor.Dms Go.Proofs.YtmaghekcpopepaaDoor.Til Go.Proofs.YtmaghekcpopepaaDoor.Grd Go.Proofs.YtmaghekcpopepaaDoor.Dss Go.Proofs.YtmaghekcpopepaaDoor.Lis Go.Proofs.YtmaghekcpopepaaDoor.Sets Go.Proofs.YtmaghekcpopepaaDoor.Ext Go.Proofs.YtmaghekcpopepaaDoor.Sam Go.Joins
open Go.Proofs.YtmaghekcpopepaaDoor.Cnt (gR tiles gR_in gR_out idxs idxs_cells tilesR tilesR_ok tilesR_not)
open Go.Proofs.YtmaghekcpopepaaDoor.Prof (iCountTilings)
open Go.Proofs.YtmaghekcpopepaaDoor.Tile (drawTileable)
open Go.Proofs.YtmaghekcpopepaaDoor.Draw (IsRow big row_len coded_of_row at0)
open Go.Proofs.YtmaghekcpopepaaDoor.Reg hiding Yes add_none

/-- the law's state: the region in its box, the lists. -/
structure LF (w : World) (pr : Nat) (Ar : Option Addr) (n cr : Nat) (xs : List Int) (b : Nat) (S : List (Option Addr × Nat)) (h : Nat) (T : List (List Dm)) (W : World) : Prop where
  bel : Below w.heap.size w W
  box : Rg W pr (.slice Ar n cr)
  row : RowB W W.heap.size Ar xs
  lt : b < W.heap.size
  ls : ∀ (i : Nat) (s : Option Addr × Nat) (x : List Dm), S[i]? = some s → T[i]? = some x → W.cell? ⟨b, i, none⟩ = some (.slice s.1 h s.2) ∧ RowM W W.heap.size s.1 x
section
variable {w W W' : World} {pr : Nat} {Ar : Option Addr} {n cr : Nat} {xs : List Int} {b : Nat} {S : List (Option Addr × Nat)} {h : Nat} {T : List (List Dm)}
theorem LF.on (k : LF w pr Ar n cr xs b S h T W) (hb : Below W.heap.size W W') : LF w pr Ar n cr xs b S h T W' :=
  ⟨k.bel.trans (hb.mono k.bel.size), k.box.on hb, (k.row.below hb (Nat.le_refl _)).mono hb.size, Nat.lt_of_lt_of_le k.lt hb.size, fun i s x hs hx => ⟨(hb.cell (p := ⟨b, i, none⟩) k.lt).trans (k.ls i s x hs hx).1, ((k.ls i s x hs hx).2.below hb (Nat.le_refl _)).mono hb.size⟩⟩
theorem LF.drew (k : LF w pr Ar n cr xs b S h T W) : LF w pr Ar n cr xs b S h T W.drew := ⟨k.bel.drew, k.box, k.row, k.lt, k.ls⟩
end
/-- two lists that follow each other. -/
theorem next_ord {T : List (List Dm)} (hp : T.Pairwise Bfr) {k : Nat} (hk : k + 1 < T.length) : ∃ i, ∃ (h1 : i < (T[k]'(by omega)).length) (h2 : i < T[k + 1].length), (∀ j (h : j < i), (T[k]'(by omega))[j] = T[k + 1][j]) ∧ (T[k]'(by omega))[i].2.2 = false ∧ T[k + 1][i].2.2 = true :=
  (List.pairwise_iff_getElem.1 hp k (k + 1) (by omega) hk (by omega)).at
theorem next_two {T : List (List Dm)} (hp : T.Pairwise Bfr) {k : Nat} (h0 : 0 < k) (hk : k < T.length) : ∃ (k1 : Nat) (X Y : List Dm) (i : Nat) (h1 : i < Y.length) (h2 : i < X.length), k1 + 1 = k ∧ T[k]? = some X ∧ T[k1]? = some Y ∧ (∀ j (h : j < i), Y[j] = X[j]) ∧ Y[i].2.2 = false ∧ X[i].2.2 = true := by
  obtain ⟨k1, rfl⟩ : ∃ k1, k = k1 + 1 := ⟨k - 1, by omega⟩
  obtain ⟨i, h1, h2, h3, h4, h5⟩ := next_ord hp hk
  exact ⟨k1, T[k1 + 1], T[k1]'(by omega), i, h1, h2, rfl, List.getElem?_eq_getElem hk, List.getElem?_eq_getElem (by omega), h3, h4, h5⟩
theorem all_facts {xs : List Int} (ho : okR xs) (h1 : 1 ≤ tilesR xs) (h2 : tilesR xs ≤ 300) : listR xs = allT xs ∧ ((allT xs).length : Int) = tilesR xs ∧ 0 < (allT xs).length ∧ (allT xs).length ≤ 300 ∧ firR xs = (allT xs).headD [] := by
  have hc := all_length ho
  have hr := allR_ok ho
  refine ⟨?_, hc, by omega, by omega, by unfold firR; rw [hr]⟩
  unfold listR
  rw [hr, if_pos (by omega)]
theorem idx_self {T : List (List Dm)} (hp : T.Pairwise Bfr) {k : Nat} (hk : k < T.length) : idxR T T[k] = (k : Int) :=
  idx_at hk (fun j hj hjk => (List.pairwise_iff_getElem.1 hp j k hj hk hjk).ne) rfl

set_option maxHeartbeats 4000000 in
theorem lists_law (A : Option Addr) (len cap : Nat) (zs : List Int) (w : World) (h0 : IsRow .u8 w A len cap zs) (hT : Tab w) :
    Calls Tryd.prog 3 #[.slice A len cap] w fun e w' => e = .returned (.bool true) ∧ Below w.heap.size w w' := by
  have hlen := row_len h0
  by_cases hbig : (1048576 : Int) < (len : Int)
  · go_enter Tryd.func3, Tryd.ntmps3
    go_wp2_with fail
    refine (big w A len cap hlen).mono ?_
    rintro e w' ⟨rfl, rfl⟩
    go_wp2
    go_ret
    exact ⟨rfl, Below.refl _ _⟩
  · have HC := Lib.hid (coded_of_row h0 (by omega))
    have HA0 := Lib.hid (fun W (hb : Below w.heap.size w W) => at0 W A len cap w.heap.size HC.out.1 (HC.out.2.below hb))
    have HTb := Lib.hid hT
    clear h0 hT
    go_enter Tryd.func3, Tryd.ntmps3
    go_wp2_with fail
    refine (big w A len cap hlen).mono ?_
    rintro e w' ⟨rfl, rfl⟩
    go_wp2_with fail
    refine (drawTileable w A len cap HC.out).mono ?_
    rintro e w1 ⟨xs, Ar, n, cr, HO, HX, rfl, hown, hb1⟩
    have hB1 := hb1.alloc hb1.size (.cells #[.slice Ar n cr] 26)
    have R1 := Rg.new w1 (.slice Ar n cr)
    have Q1 := (rowB_own hown).below (below_alloc1 w1 (.cells #[.slice Ar n cr] 26)) (Nat.le_refl _)
    have Q1 := Q1.mono (below_alloc1 w1 (.cells #[.slice Ar n cr] 26)).size
    clear hown hb1 HC
    go_upto_region 4 with fail
    generalize w1.alloc (.cells #[.slice Ar n cr] 26) = W1 at hB1 R1 Q1 ⊢
    generalize w1.heap.size = pr at R1 ⊢
    have hn8 : n ≤ 8 := by have := HO.out.1.1; have := HX.out; omega
    have hnI : (n : Int) ≤ 9223372036854775807 := by omega
    obtain ⟨e1, e2, e3, e4, e5⟩ := all_facts HO.out.1 HO.out.2.1 HO.out.2.2
    have hhf := halfR_le xs
    have HLs := Lib.hid (fun W (hb : Below w.heap.size w W) (q : RowB W W.heap.size Ar xs) => e1 ▸ iListTilings W Ar n cr W.heap.size xs HX.out hnI q (Nat.le_refl _) (HTb.out.on hb (Nat.le_refl _)))
    have HFi := Lib.hid (fun W (hb : Below w.heap.size w W) (q : RowB W W.heap.size Ar xs) => by
      have := iFirstTiling W Ar n cr W.heap.size xs HX.out hnI q (Nat.le_refl _) (HTb.out.on hb (Nat.le_refl _))
      rw [e5, decide_eq_true (by omega)] at this
      exact this)
    have HTl := Lib.hid (fun W (q : RowB W W.heap.size Ar xs) => by
      have := iCountTilings W Ar n cr W.heap.size xs HX.out hnI q (Nat.le_refl _)
      rw [← e2] at this
      exact this)
    have hall := all_half HO.out.1
    have hall : ∀ L ∈ allT xs, L.length = halfR xs := hall
    have htil := all_til HO.out.1
    have hord := all_order xs
    have HIs := Lib.hid (fun W (q : RowB W W.heap.size Ar xs) (a : Option Addr) (c : Nat) (L : List Dm) (hL : L ∈ allT xs) (hr : RowM W W.heap.size a L) => by
      have := sIsTiling W Ar n cr W.heap.size xs HX.out hnI q (Nat.le_refl _) a (halfR xs) c W.heap.size L (hall L hL) (by omega) hr (Nat.le_refl _)
      rw [htil L hL] at this
      exact this)
    have HIx := Lib.hid (fun W (hb : Below w.heap.size w W) (q : RowB W W.heap.size Ar xs) (a : Option Addr) (c : Nat) (k : Nat) (hk : k < (allT xs).length) (hr : RowM W W.heap.size a (allT xs)[k]) => by
      have := iIndexOf W Ar n cr W.heap.size xs HX.out hnI q (Nat.le_refl _) (HTb.out.on hb (Nat.le_refl _)) a (halfR xs) c W.heap.size (allT xs)[k] (hall _ (List.getElem_mem hk)) (by omega) hr (Nat.le_refl _)
      rw [e1, idx_self hord hk] at this
      exact this)
    have HOr := Lib.hid (fun k h0 hk => next_two hord (k := k) h0 hk)
    have HAl := Lib.hid hall
    generalize allT xs = T at e3 e4 e5 HLs HFi HTl HIs HIx HOr HAl
    generalize halfR xs = h at hhf HLs HIs HIx HAl
    obtain ⟨L0, hL0⟩ : ∃ L0, T[0]? = some L0 := ⟨_, List.getElem?_eq_getElem e3⟩
    have hhd : T.headD [] = L0 := by rw [List.headD_eq_head?_getD, List.head?_eq_getElem?, hL0]; rfl
    rw [hhd] at HFi
    have HL0 := Lib.hid hL0
    have HLh := Lib.hid (show L0.length = h from HAl.out L0 (List.mem_of_getElem? hL0))
    obtain ⟨m, hm⟩ : ∃ m, m = T.length := ⟨_, rfl⟩
    have HM := Lib.hid hm
    unfold SSP at HLs
    unfold DmB at HFi
    rw [← hm] at HLs HTl e3 e4
    rw [HLh.out] at HFi
    clear e1 e2 e5 hall htil hord hnI hn8 hL0 hhd hm
    have c0 := R1.c0
    go_wp2_with fail
    refine (HLs.out _ hB1 Q1).mono ?_
    rintro e w2 ⟨A1, cap1, rfl, hss, hb2⟩
    have hrr := ss_row hss
    have hB2 := hB1.trans (hb2.mono hB1.size)
    have R2 := R1.on hb2
    have Q2 := (Q1.below hb2 (Nat.le_refl _)).mono hb2.size
    obtain ⟨b, S, s1, s2, s3⟩ := hrr
    obtain ⟨rfl, hbl⟩ := s2 (by omega)
    have F2 : LF w pr Ar n cr xs b S h T w2 := ⟨hB2, R2, Q2, hbl, s3⟩
    have HS := Lib.hid (show S.length = m by rw [s1, HM.out])
    clear hss hb2 s2 s3 s1 hB1 R1 Q1 HLs hB2 R2 Q2 c0 hbl
    have c0 := F2.box.c0
    go_wp2_with fail
    refine (HFi.out _ F2.bel F2.row).mono ?_
    rintro e w3 ⟨A3, cap3, rfl, hown3, hb3⟩
    have F3 := F2.on hb3
    have D3 := rowM_own hown3
    clear F2 hown3 hb3 HFi c0
    have c0 := F3.box.c0
    go_wp2_with fail
    refine (HTl.out _ F3.row).mono ?_
    rintro e w4 ⟨rfl, hb4⟩
    have F4 := F3.on hb4
    have D4 := (D3.below hb4 (Nat.le_refl _)).mono hb4.size
    clear F3 D3 hb4 HTl c0
    have hmm : ((m : Int) != (m : Int)) = false := by simp
    have hm0 : ((m : Int) == 0) = false := by simp; omega
    have hS0 : 0 < S.length := by rw [HS.out]; exact e3
    obtain ⟨cl, rl⟩ := F4.ls 0 S[0] L0 (List.getElem?_eq_getElem hS0) HL0.out
    have HSm := Lib.hid (iSame w4 A3 S[0].1 h h cap3 S[0].2 w4.heap.size w4.heap.size L0 L0 HLh.out HLh.out (by omega) (by omega) D4 rl (Nat.le_refl _) (Nat.le_refl _))
    have hse : sameD L0 L0 = true := by unfold sameD; simp
    rw [hse] at HSm
    generalize S[0].1 = a0 at cl HSm
    generalize S[0].2 = q0 at cl HSm
    go_wp2_with fail
    refine HSm.out.mono ?_
    rintro e w5 ⟨rfl, hb5⟩
    have F5 := F4.on hb5
    clear F4 D4 hb5 cl rl HSm hmm hm0 hS0 hse HL0 HLh
    go_wp2_with fail
    go_loopw [7] (fun kv wr => ∃ k : Nat, k ≤ m ∧ kv = .int .i64 k ∧ LF w pr Ar n cr xs b S h T wr) (fun kv _ => m - (intOf kv).toNat)
    case atStart => exact ⟨0, Nat.zero_le _, rfl, F5⟩
    case round =>
      clear F5
      obtain ⟨k, hk, rfl, F6⟩ := hrel
      by_cases hlt : k < m
      · have hkT : k < T.length := by rw [← HM.out]; exact hlt
        have hkS : k < S.length := by rw [HS.out]; exact hlt
        have HIk := Lib.hid (fun W (F : LF w pr Ar n cr xs b S h T W) => HIs.out W F.row S[k].1 S[k].2 T[k] (List.getElem_mem hkT) (F.ls k S[k] T[k] (List.getElem?_eq_getElem hkS) (List.getElem?_eq_getElem hkT)).2)
        have HCk := Lib.hid (fun W (F : LF w pr Ar n cr xs b S h T W) => show W.cell? ⟨pr, 0, none⟩ = some (.slice Ar n cr) ∧ W.cell? ⟨b, k, none⟩ = some (.slice S[k].1 h S[k].2) from ⟨F.box.c0, (F.ls k S[k] T[k] (List.getElem?_eq_getElem hkS) (List.getElem?_eq_getElem hkT)).1⟩)
        have HSk := Lib.hid (show S[k]? = some (S[k].1, S[k].2) from List.getElem?_eq_getElem hkS)
        have HLn := Lib.hid (fun (i : Nat) (X : List Dm) (hX : T[i]? = some X) => HAl.out X (List.mem_of_getElem? hX))
        generalize S[k].1 = a at HIk HCk HSk
        generalize S[k].2 = c at HIk HCk HSk
        have hs0 := HCk.out _ F6.drew
        go_upto_region 11 with fail
        go_region_held3 (fun w' => w'.cell? ⟨pr, 0, none⟩ = some (.slice Ar n cr) ∧ w'.cell? ⟨b, k, none⟩ = some (.slice a h c))
          (first
            | exact hs1
            | exact hs0
            | fail)
          (first
            | (go_at_call 13
               go_must (refine (HIk.out _ F6.drew).mono ?_)
               rintro e w7 ⟨rfl, hb7⟩
               have F7 := F6.drew.on hb7
               have hs1 := HCk.out _ F7)
            | fail)
        clear hs0 hs1 F6 hb7 HIk
        by_cases hk0 : k = 0
        · subst hk0
          go_wp2_with fail
          go_loopw [8] (fun iv wr => iv = .int .i64 0 ∧ LF w pr Ar n cr xs b S h T wr) (fun _ _ => 0)
          case atStart => exact ⟨rfl, F7⟩
          case round =>
            clear F7
            obtain ⟨rfl, F8⟩ := hrel
            have HF8 := Lib.hid F8
            go_wp2
            go_roundw
            case rel => exact ⟨1, by omega, by go_num, HF8.out⟩
            case measure => (simp [intOf] <;> omega)
        · obtain ⟨k1, X, Y, i0, hi1, hi2, hk1, hX, hY, heq, hf, ht⟩ := HOr.out k (by omega) hkT
          have hXl := HLn.out k X hX
          have hYl := HLn.out k1 Y hY
          have hk1S : k1 < S.length := by omega
          obtain ⟨cx, rx⟩ := F7.ls k (a, c) X HSk.out hX
          obtain ⟨cy, ry⟩ := F7.ls k1 S[k1] Y (List.getElem?_eq_getElem hk1S) hY
          generalize S[k1].1 = a' at cy ry
          generalize S[k1].2 = c' at cy ry
          obtain ⟨bx, ox, hAx, hcx⟩ := rx.at
          obtain ⟨by', oy, hAy, hcy⟩ := ry.at
          obtain ⟨rfl, hbx⟩ := hAx (by omega)
          obtain ⟨rfl, hby⟩ := hAy (by omega)
          have hb7l := F7.lt
          simp only at cx
          obtain ⟨h1, hh1⟩ : ∃ h1 : Nat, h1 + 1 = h := ⟨h - 1, by omega⟩
          have hw1 : wrap64 ((k : Int) - 1) = (k1 : Int) := by unfold wrap64; omega
          have hw2 : IntKind.i64.wrap ((k : Int) - 1) = (k1 : Int) := by rw [IntKind.wrap_i64]; omega
          have hv1 : wrap64 ((h : Int) - 1) = (h1 : Int) := by unfold wrap64; omega
          have hv2 : IntKind.i64.wrap ((h : Int) - 1) = (h1 : Int) := by rw [IntKind.wrap_i64]; omega
          have hkp : (0 : Int) < (k : Int) := by omega
          have hk1m : (k1 : Int) < (m : Int) := by omega
          have hi0h : i0 < h := by omega
          have HE := Lib.hid (show ∀ j (hj : j < i0) (p1 : j < Y.length) (p2 : j < X.length), Y[j] = X[j] from fun j hj p1 p2 => heq j hj)
          have HCx := Lib.hid (fun j (hj : j < h) => hcx j (by rw [hXl]; exact hj))
          have HCy := Lib.hid (fun j (hj : j < h) => hcy j (by rw [hYl]; exact hj))
          have HF := Lib.hid (And.intro hf ht)
          have HF7 := Lib.hid F7
          have HK1 := Lib.hid hk1
          have HH1 := Lib.hid hh1
          clear F7 rx ry hAx hAy hcx hcy heq hf ht hX hY hk1S hk1 hh1 HSk HCk hk0
          go_wp2_with fail
          go_loopw [8] (fun iv wr => ∃ j : Nat, j ≤ i0 ∧ iv = .int .i64 j ∧ Below w7.heap.size w7 wr) (fun iv _ => i0 + 1 - (intOf iv).toNat)
          case atStart => exact ⟨0, Nat.zero_le _, rfl, Below.refl _ _⟩
          case round =>
            obtain ⟨j, hj, rfl, hb⟩ := hrel
            have hjh : j < h := by omega
            have d0 := (hb.cell (p := ⟨b, k, none⟩) hb7l).trans cx
            have d1 := (hb.cell (p := ⟨b, k1, none⟩) hb7l).trans cy
            obtain ⟨x0, x1, x2⟩ := HCx.out j hjh
            obtain ⟨y0, y1, y2⟩ := HCy.out j hjh
            have x0 := (hb.cell (p := ⟨bx, ox + j * 3, none⟩) hbx).trans x0
            have x1 := (hb.cell (p := ⟨bx, ox + j * 3 + 1, none⟩) hbx).trans x1
            have x2 := (hb.cell (p := ⟨bx, ox + j * 3 + 2, none⟩) hbx).trans x2
            have y0 := (hb.cell (p := ⟨by', oy + j * 3, none⟩) hby).trans y0
            have y1 := (hb.cell (p := ⟨by', oy + j * 3 + 1, none⟩) hby).trans y1
            have y2 := (hb.cell (p := ⟨by', oy + j * 3 + 2, none⟩) hby).trans y2
            have hjI : (j : Int) < (h : Int) := by omega
            have hb2 : Below w7.heap.size w7 wr.drew := hb.drew
            by_cases hji : j < i0
            · have he := HE.out j hji (by omega) (by omega)
              rw [he] at y0 y1 y2
              have hje : ((j : Int) == (h1 : Int)) = false := by rw [beq_eq_false_iff_ne]; have := HH1.out; omega
              generalize X[j] = d at x0 x1 x2 y0 y1 y2
              obtain ⟨dx, dy, db⟩ := d
              simp only at x0 x1 x2 y0 y1 y2
              clear he cx cy
              go_wp2_with fail
              go_region
              go_wp2
              go_roundw
              case rel => exact ⟨j + 1, by omega, by go_num, hb2⟩
              case measure => (simp [intOf] <;> omega)
            · obtain rfl : j = i0 := by omega
              obtain ⟨hf, ht⟩ := HF.out
              rw [hf] at y2
              rw [ht] at x2
              generalize X[j] = d at x0 x1
              generalize Y[j] = f at y0 y1
              obtain ⟨dx, dy, db⟩ := d
              obtain ⟨fx, fy, fb⟩ := f
              simp only at x0 x1 y0 y1
              have HF8 := Lib.hid (HF7.out.on hb2)
              clear hf ht cx cy
              by_cases q1 : dx = fx
              · subst q1
                by_cases q2 : dy = fy
                · subst q2
                  go_wp2_with fail
                  go_region
                  go_wp2
                  go_roundw
                  case rel => exact ⟨k + 1, by omega, by go_num, HF8.out⟩
                  case measure => (simp [intOf] <;> omega)
                · go_wp2_with fail
                  go_region
                  go_wp2
                  go_roundw
                  case rel => exact ⟨k + 1, by omega, by go_num, HF8.out⟩
                  case measure => (simp [intOf] <;> omega)
              · go_wp2_with fail
                go_region
                go_wp2
                go_roundw
                case rel => exact ⟨k + 1, by omega, by go_num, HF8.out⟩
                case measure => (simp [intOf] <;> omega)
      · obtain rfl : k = m := by omega
        go_wp2_with fail
        refine (HA0.out _ F6.bel).mono ?_
        rintro e w8 ⟨x, ⟨hx0, hx1⟩, rfl, hw⟩
        have hw := hw.symm
        subst hw
        obtain ⟨kk, hkk⟩ : ∃ kk : Nat, (kk : Int) = x % (k : Int) := ⟨(x % (k : Int)).toNat, Int.toNat_of_nonneg (Int.emod_nonneg _ (by omega))⟩
        have hkl : kk < k := by have := Int.emod_lt_of_pos x (show (0 : Int) < (k : Int) by omega); omega
        have hr1 : x % (k : Int) = (kk : Int) := hkk.symm
        have hr2 : x.tmod (k : Int) = (kk : Int) := by rw [Int.tmod_eq_emod_of_nonneg hx0]; exact hr1
        have hkT : kk < T.length := by rw [← HM.out]; exact hkl
        have hkS : kk < S.length := by rw [HS.out]; exact hkl
        have hne : ((k : Int) == 0) = false := by simp; omega
        have HIk := Lib.hid (fun W (F : LF w pr Ar n cr xs b S h T W) => HIx.out W F.bel F.row S[kk].1 S[kk].2 kk hkT (F.ls kk S[kk] T[kk] (List.getElem?_eq_getElem hkS) (List.getElem?_eq_getElem hkT)).2)
        have HCk := Lib.hid (fun W (F : LF w pr Ar n cr xs b S h T W) => show W.cell? ⟨pr, 0, none⟩ = some (.slice Ar n cr) ∧ W.cell? ⟨b, kk, none⟩ = some (.slice S[kk].1 h S[kk].2) from ⟨F.box.c0, (F.ls kk S[kk] T[kk] (List.getElem?_eq_getElem hkS) (List.getElem?_eq_getElem hkT)).1⟩)
        generalize S[kk].1 = a at HIk HCk
        generalize S[kk].2 = c at HIk HCk
        have hs0 := HCk.out _ F6.drew
        have hkk2 : ((kk : Int) == (kk : Int)) = true := by simp
        have hkI : (kk : Int) < (k : Int) := by omega
        clear hkk
        go_upto_region 22 with fail
        go_region_held3 (fun w' => w'.cell? ⟨pr, 0, none⟩ = some (.slice Ar n cr) ∧ w'.cell? ⟨b, kk, none⟩ = some (.slice a h c))
          (first
            | exact hs1
            | exact hs0
            | fail)
          (first
            | (go_at_call 15
               go_must (refine (HIk.out _ F6.drew).mono ?_)
               rintro e w9 ⟨rfl, hb9⟩
               have F9 := F6.drew.on hb9
               have hs1 := HCk.out _ F9)
            | fail)
        have HB := Lib.hid F9.bel
        clear hs0 hs1 F6 F9 hb9 HIk
        go_wp2
        go_ret
        exact ⟨rfl, HB.out⟩
end Go.Proofs.YtmaghekcpopepaaDoor.Lst
