/- DominoAt: the program's function and the model's find the same first domino over a cell in every list. -/
import Derived.Test.YtgkgdgchkhdgjaaTilP
import Derived.Test.YtgkgdgchkhdgjaaDomF
import Derived.Test.YtgkgdgchkhdgjaaDomG
namespace Go.Proofs.Ytgkgdgchkhdgjaa.Til
set_option linter.unusedVariables false
set_option linter.unusedSimpArgs false
open Go.RowKit Go.Proofs.Ytgkgdgchkhdgjaa.Base Go.Proofs.Ytgkgdgchkhdgjaa.Pure Go.Proofs.Ytgkgdgchkhdgjaa.Cell Go.Proofs.Ytgkgdgchkhdgjaa.Dom Go.Proofs.Ytgkgdgchkhdgjaa.Dms Go.Joins

/-- the box of a cell, in a world behind its making. -/
def Bc (w : World) (x y : Int) (W : World) : Prop := Below w.heap.size w W ∧ At2 W w.heap.size x y
theorem bc_start (x y : Int) (w : World) : Bc w x y (w.alloc (.cells #[.int .i64 x, .int .i64 y] 58)) := ⟨below_alloc1 w _, At2.new w x y⟩
theorem Bc.on {w W W' : World} {x y : Int} (h : Bc w x y W) (hb : Below W.heap.size W W') : Bc w x y W' := ⟨h.1.trans (hb.mono h.1.size), h.2.on hb⟩
theorem Bc.drew {w W : World} {x y : Int} (h : Bc w x y W) : Bc w x y W.drew := ⟨h.1.drew, h.2⟩
/-- none of the first k dominoes covers the cell. -/
def Miss (L : List Dm) (x y : Int) (k : Nat) : Prop := ∀ j e, j < k → L[j]? = some e → covM e x y = false
theorem Miss.zero (L : List Dm) (x y : Int) : Miss L x y 0 := fun j e h => by omega
theorem Miss.succ {L : List Dm} {x y : Int} {k : Nat} (h : Miss L x y k) {d : Dm} (hd : L[k]? = some d) (hc : covM d x y = false) : Miss L x y (k + 1) := by
  intro j e hj he
  by_cases hjk : j = k
  · subst hjk; rw [hd] at he; injection he with he; subst he; exact hc
  · exact h j e (by omega) he
theorem Miss.hit {L : List Dm} {x y : Int} {k : Nat} (h : Miss L x y k) {d : Dm} (hd : L[k]? = some d) (hc : covM d x y = true) : atI L x y = (k : Int) := atI_hit h hd hc
theorem Miss.all {L : List Dm} {x y : Int} (h : Miss L x y L.length) : atI L x y = -1 := atI_miss h

set_option maxRecDepth 100000 in
set_option maxHeartbeats 1000000 in
theorem iDominoAt (w : World) (A : Option Addr) (n cap B : Nat) (L : List Dm) (hL : L.length = n) (hn : (n : Int) ≤ 9223372036854775807) (hf : Fits L) (h : RowM w B A L) (hB : B ≤ w.heap.size) (x y : Int) :
    Calls Try.prog 98 #[.slice A n cap, .agg #[.int .i64 x, .int .i64 y]] w (Num (atI L x y) w) := by
  obtain ⟨b0, off, h1, h2⟩ := h.at
  have HA := Lib.hid (fun hp => h1 hp)
  have HC := Lib.hid h2
  have HL := Lib.hid hL
  have HF := Lib.hid hf
  have HB := Lib.hid hB
  have HS := Lib.hid (bc_start x y w)
  clear h h1 h2 hL hf hB
  go_enter Try.func98, Try.ntmps98
  go_wp2_with fail
  go_loopw [9] (fun i wr => ∃ j : Nat, j ≤ n ∧ i = .int .i64 j ∧ Bc w x y wr ∧ Hid (Miss L x y j)) (fun i _ => n - (intOf i).toNat)
  case atStart => exact ⟨0, Nat.zero_le _, rfl, HS.out, Lib.hid (Miss.zero _ _ _)⟩
  case round =>
    clear HS
    obtain ⟨j, hj, rfl, hT, hM⟩ := hrel
    have hbs := hT.1.size
    by_cases hlt : j < n
    · have hjL : j < L.length := by have := HL.out; omega
      obtain ⟨rfl, hbB⟩ := HA.out (by omega)
      obtain ⟨c0, c1, c2⟩ := HC.out j hjL
      have hbw : b0 < w.heap.size := by have := HB.out; omega
      have c0 := (hT.1.cell (p := ⟨b0, off + j * 3, none⟩) hbw).trans c0
      have c1 := (hT.1.cell (p := ⟨b0, off + j * 3 + 1, none⟩) hbw).trans c1
      have c2 := (hT.1.cell (p := ⟨b0, off + j * 3 + 2, none⟩) hbw).trans c2
      obtain ⟨f1, f2⟩ := HF.out L[j] (List.getElem_mem hjL)
      have HD := Lib.hid (List.getElem?_eq_getElem (l := L) hjL)
      generalize L[j] = d at c0 c1 c2 f1 f2 HD
      obtain ⟨u, v, b⟩ := d
      simp only at c0 c1 c2 f1 f2
      have HO := Lib.hid (fun W => iDominoOk u v b f1 f2 W)
      have HV := Lib.hid (fun W => iCovers u v b f1 f2 x y W)
      have HK := Lib.hid (show covM (u, v, b) x y = (domB u v b && (eqB x y u v || eqB x y (sx u b) (sy v b))) from rfl)
      generalize domB u v b = p at HO HK
      generalize (eqB x y u v || eqB x y (sx u b) (sy v b)) = r at HV HK
      have HT := Lib.hid hT
      clear f1 f2 hT hbs
      go_wp2_with fail
      refine (HO.out _).mono ?_
      rintro e w1 ⟨rfl, hb1⟩
      obtain ⟨hbw1, K1⟩ := bx3 u v b wr w1 hb1
      have T1 := HT.out.on hbw1
      have k0 := K1.c0
      have k1 := K1.c1
      have k2 := K1.c2
      have k3 := T1.2.c0
      have k4 := T1.2.c1
      clear hb1 HO K1 HT hbw1
      cases p with
      | false =>
        have HM := Lib.hid (hM.out.succ HD.out (by rw [HK.out]; rfl))
        clear k0 k1 k2 k3 k4 HV HK hM HD
        go_wp2
        go_roundw
        case rel => exact ⟨j + 1, by omega, by go_num, T1, HM⟩
        case measure => (simp [intOf] <;> omega)
      | true =>
        go_wp2_with fail
        refine (HV.out _).mono ?_
        rintro e w2 ⟨rfl, hb2⟩
        have T2 := T1.on hb2
        clear k0 k1 k2 k3 k4 T1 hb2 HV
        cases r with
        | true =>
          have HE := Lib.hid (hM.out.hit HD.out (by rw [HK.out]; rfl))
          go_wp2
          go_ret
          rw [HE.out]
          exact ⟨rfl, T2.1⟩
        | false =>
          have HM := Lib.hid (hM.out.succ HD.out (by rw [HK.out]; rfl))
          clear HK hM HD
          go_wp2
          go_roundw
          case rel => exact ⟨j + 1, by omega, by go_num, T2, HM⟩
          case measure => (simp [intOf] <;> omega)
    · obtain rfl : j = n := by omega
      have HE := Lib.hid (show atI L x y = -1 from Miss.all (by rw [HL.out]; exact hM.out))
      go_wp2
      go_ret
      rw [HE.out]
      exact ⟨rfl, hT.1⟩
set_option maxRecDepth 100000 in
set_option maxHeartbeats 1000000 in
theorem sDominoAt (w : World) (A : Option Addr) (n cap B : Nat) (L : List Dm) (hL : L.length = n) (hn : (n : Int) ≤ 9223372036854775807) (h : RowM w B A L) (hB : B ≤ w.heap.size) (x y : Int) :
    Calls Try.prog 90 #[.slice A n cap, .agg #[.int .i64 x, .int .i64 y]] w (Num (atI L x y) w) := by
  obtain ⟨b0, off, h1, h2⟩ := h.at
  have HA := Lib.hid (fun hp => h1 hp)
  have HC := Lib.hid h2
  have HL := Lib.hid hL
  have HB := Lib.hid hB
  have HS := Lib.hid (bc_start x y w)
  clear h h1 h2 hL hB
  go_enter Try.func90, Try.ntmps90
  go_wp2_with fail
  go_loopw [5] (fun i wr => ∃ j : Nat, j ≤ n ∧ i = .int .i64 j ∧ Bc w x y wr ∧ Hid (Miss L x y j)) (fun i _ => n - (intOf i).toNat)
  case atStart => exact ⟨0, Nat.zero_le _, rfl, HS.out, Lib.hid (Miss.zero _ _ _)⟩
  case round =>
    clear HS
    obtain ⟨j, hj, rfl, hT, hM⟩ := hrel
    have hbs := hT.1.size
    by_cases hlt : j < n
    · have hjL : j < L.length := by have := HL.out; omega
      obtain ⟨rfl, hbB⟩ := HA.out (by omega)
      obtain ⟨c0, c1, c2⟩ := HC.out j hjL
      have hbw : b0 < w.heap.size := by have := HB.out; omega
      have c0 := (hT.1.cell (p := ⟨b0, off + j * 3, none⟩) hbw).trans c0
      have c1 := (hT.1.cell (p := ⟨b0, off + j * 3 + 1, none⟩) hbw).trans c1
      have c2 := (hT.1.cell (p := ⟨b0, off + j * 3 + 2, none⟩) hbw).trans c2
      have HD := Lib.hid (List.getElem?_eq_getElem (l := L) hjL)
      generalize L[j] = d at c0 c1 c2 HD
      obtain ⟨u, v, b⟩ := d
      simp only at c0 c1 c2
      have HO := Lib.hid (fun W => sDominoOk u v b W)
      have HU := Lib.hid (fun hd W => sCellsUnder_ok u v b hd W)
      have HK := Lib.hid (show covM (u, v, b) x y = (domB u v b && (eqB x y u v || eqB x y (sx u b) (sy v b))) from rfl)
      generalize domB u v b = p at HO HU HK
      generalize sx u b = m at HU HK
      generalize sy v b = q at HU HK
      have HT := Lib.hid hT
      go_wp2_with fail
      refine (HO.out _).mono ?_
      rintro e w1 ⟨rfl, hb1⟩
      have T1 := HT.out.on hb1
      clear HO HT hT hbs
      cases p with
      | false =>
        have HM := Lib.hid (hM.out.succ HD.out (by rw [HK.out]; rfl))
        clear c0 c1 c2 HU HK hM HD hb1
        go_wp2
        go_roundw
        case rel => exact ⟨j + 1, by omega, by go_num, T1, HM⟩
        case measure => (simp [intOf] <;> omega)
      | true =>
        have hwr : b0 < wr.heap.size := World.block_lt_of_cell? _ _ c0
        have c0 := (hb1.cell (p := ⟨b0, off + j * 3, none⟩) hwr).trans c0
        have c1 := (hb1.cell (p := ⟨b0, off + j * 3 + 1, none⟩) hwr).trans c1
        have c2 := (hb1.cell (p := ⟨b0, off + j * 3 + 2, none⟩) hwr).trans c2
        clear hb1
        go_wp2_with fail
        refine (HU.out trivial _).mono ?_
        rintro e w2 ⟨rfl, hb2⟩
        have T2 := T1.on hb2
        clear c0 c1 c2 T1 hb2 HU
        go_upto_region 6 with fail
        obtain ⟨k1, k2, k3⟩ := at2_two w2 u v m q
        have T3 := T2.on k3
        generalize (w2.alloc (.cells #[.int .i64 u, .int .i64 v] 58)).alloc (.cells #[.int .i64 m, .int .i64 q] 58) = W at k1 k2 T3 ⊢
        have c0 := k1.c0
        have c1 := k1.c1
        have c2 := k2.c0
        have c3 := k2.c1
        have c4 := T3.2.c0
        have c5 := T3.2.c1
        have HY := Lib.hid (fun (hh : (u = x ∧ v = y) ∨ (m = x ∧ q = y)) => hM.out.hit HD.out (by rw [HK.out]; simp [eqB_iff]; rcases hh with ⟨rfl, rfl⟩ | ⟨rfl, rfl⟩ <;> simp))
        have HN := Lib.hid (fun (hh : ¬ ((u = x ∧ v = y) ∨ (m = x ∧ q = y))) => hM.out.succ HD.out (by rw [HK.out, Bool.true_and, Bool.eq_false_iff]; intro hc; simp only [Bool.or_eq_true, eqB_iff] at hc; exact hh (by omega)))
        have HT3 := Lib.hid T3
        clear k1 k2 k3 T2 T3 HK hM HD
        go_wp2
        all_goals first
          | (go_ret; rw [HY.out (by omega)]; exact ⟨rfl, HT3.out.1⟩)
          | (refine ⟨⟨j + 1, by omega, by go_num, HT3.out, Lib.hid (HN.out (by omega))⟩, ?_⟩; simp [intOf] <;> omega)
    · obtain rfl : j = n := by omega
      have HE := Lib.hid (show atI L x y = -1 from Miss.all (by rw [HL.out]; exact hM.out))
      go_wp2
      go_ret
      rw [HE.out]
      exact ⟨rfl, hT.1⟩
end Go.Proofs.Ytgkgdgchkhdgjaa.Til
