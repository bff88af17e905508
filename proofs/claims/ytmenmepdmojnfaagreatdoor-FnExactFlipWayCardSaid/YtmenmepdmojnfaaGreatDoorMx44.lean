/- IWw, EWw in one text. -/
import Derived.Test.YtmenmepdmojnfaaGreatDoorMx43
import Derived.Test.YtmenmepdmojnfaaGreatDoorMx41
import Derived.Test.YtmenmepdmojnfaaGreatDoorMx42

namespace Go.Proofs.YtmenmepdmojnfaaGreatDoor.Wg
set_option linter.unusedVariables false
set_option linter.unusedSimpArgs false
set_option maxRecDepth 100000
open Go.RowKit Go.Proofs.YtmenmepdmojnfaaGreatDoor.Base Go.Proofs.YtmenmepdmojnfaaGreatDoor.Cels Go.Proofs.YtmenmepdmojnfaaGreatDoor.Dms Go.Proofs.YtmenmepdmojnfaaGreatDoor.Til Go.Proofs.YtmenmepdmojnfaaGreatDoor.Dss Go.Proofs.YtmenmepdmojnfaaGreatDoor.Sets Go.Proofs.YtmenmepdmojnfaaGreatDoor.Flp Go.Joins
open Go.Proofs.YtmenmepdmojnfaaGreatDoor.Lst (halfR_le listR listR_small listR_half iListTilings idxR)
open Go.Proofs.YtmenmepdmojnfaaGreatDoor.Ext (SSP halfR)
open Go.Proofs.YtmenmepdmojnfaaGreatDoor.Reg hiding Yes add_none RC rc_start

theorem wayG_le (T : List (List Dm)) (D : Nat → Int) : ∀ n i, (wayG T D n i).length ≤ n := by
 intro n
 induction n with
 | zero => intro i; exact Nat.le_refl _
 | succ n ih =>
  intro i
  unfold wayG
  split
  ·rw [List.length_cons]; have := ih (idx T (flipL (T.getD i []) ‹Int × Int›.1 ‹Int × Int›.2)); omega
  ·simp
theorem lit_nil {w w' : World} {base : Nat} : w'.ownsRow base 67 2 (.slice none 0 0) 0 [] := ⟨rfl, .inl ⟨rfl, rfl⟩⟩
set_option maxHeartbeats 8000000 in
theorem iFlipWay (w : World) (A : Option Addr) (n cap B : Nat) (xs : List Int) (hx : xs.length = n) (hn : (n : Int) ≤ 9223372036854775807) (hrow : RowB w B A xs) (hB : B ≤ w.heap.size) (hT : Tab w)
  (A1 : Option Addr) (n1 cap1 B1 : Nat) (L : List Dm) (hL : L.length = n1) (hn1 : (n1 : Int) ≤ 1048576) (hf1 : Fits L) (h1 : RowM w B1 A1 L) (hB1 : B1 ≤ w.heap.size)
  (A2 : Option Addr) (n2 cap2 B2 : Nat) (M : List Dm) (hM : M.length = n2) (hn2 : (n2 : Int) ≤ 1048576) (hf2 : Fits M) (h2 : RowM w B2 A2 M) (hB2 : B2 ≤ w.heap.size) :
  Calls Tryz.prog 11 #[.agg #[.slice A n cap], .slice A1 n1 cap1, .slice A2 n2 cap2] w (WayP (listR xs) L M w) := by
 obtain ⟨i0, hi0, hz0, hz1, hz2⟩ := info_parts Cels.cellInfo
 have HLs := Lib.hid (fun W (hb : Below w.heap.size w W) => iListTilings W A n cap B xs hx hn (hrow.below hb hB) (by have := hb.size; omega) (hT.on hb (Nat.le_refl _)))
 have HS := Lib.hid (below_alloc1 w (.cells #[.slice A n cap] 26))
 have HR := Lib.hid (Rg.new w (.slice A n cap))
 have hsm := listR_small xs
 have hHf := listR_half (xs := xs)
 have hhf := halfR_le xs
 have hgd := list_gd xs
 unfold SSP at HLs
 generalize listR xs = T at HLs hsm hHf hgd ⊢
 generalize halfR xs = h at HLs hHf hhf
 have q1 := idx_two T L
 have q2 := idx_two T M
 obtain ⟨m, hm⟩ : ∃ m, T.length = m := ⟨_, rfl⟩
 have HM := Lib.hid hm
 rw [hm] at HLs hsm
 have HF1 := Lib.hid (fun W (hb : Below w.heap.size w W) A' c' B' (hr : RowSS W B' A' m h T) (hB' : B' ≤ W.heap.size) => iFind W A' m c' B' h T hm hsm hhf hHf hr hB' A1 n1 cap1 B1 L hL (by omega) (h1.below hb hB1) (by have := hb.size; omega))
 have HF2 := Lib.hid (fun W (hb : Below w.heap.size w W) A' c' B' (hr : RowSS W B' A' m h T) (hB' : B' ≤ W.heap.size) => iFind W A' m c' B' h T hm hsm hhf hHf hr hB' A2 n2 cap2 B2 M hM (by omega) (h2.below hb hB2) (by have := hb.size; omega))
 have HDs := Lib.hid (fun W A' c' B' (hr : RowSS W B' A' m h T) (hB' : B' ≤ W.heap.size) st (hst : st < T.length) => iDistances W A' m c' B' h T hm hsm hhf hHf hgd hr hB' st hst)
 have HNe := Lib.hid (fun W A' c' B' (hr : RowSS W B' A' m h T) (hB' : B' ≤ W.heap.size) u (hu : u < T.length) bl D (hd : RdI W bl m D) hex => iNearer W A' m c' B' h T hm hsm hhf hHf hgd hr hB' u hu bl D hd hex)
 have HSt := Lib.hid (fun (D : Nat → Int) j hD i n (hi : i < T.length) h => near_step hgd (D := D) (j := j) hD (i := i) (n := n) hi h)
 unfold DsP at HDs
 unfold NeP at HNe
 clear hx hn hrow hB hT hL hn1 hf1 h1 hB1 hM hn2 hf2 h2 hB2 hm hHf hgd
 go_enter Tryz.func11, Tryz.ntmps11
 go_wp2_with fail
 generalize w.alloc (.cells #[.slice A n cap] 26) = W0 at HS HR ⊢
 have c0 := HR.out.c0
 refine (HLs.out _ HS.out).mono ?_
 rintro e w1 ⟨A3, c3, rfl, hss, hb1⟩
 have B1 := Lib.hid (HS.out.trans (hb1.mono HS.out.size))
 have HSS := Lib.hid (ss_row hss)
 clear hss hb1 HS HR c0 HLs
 go_wp2_with fail
 refine (HF1.out _ B1.out _ _ _ HSS.out (Nat.le_refl _)).mono ?_
 rintro e w2 ⟨rfl, hb2⟩
 have B2 := Lib.hid (B1.out.trans (hb2.mono B1.out.size))
 have HSS2 := Lib.hid (rowSS_up (HSS.out.below HM.out hb2 (Nat.le_refl _)) hb2.size)
 clear hb2 B1 HSS HF1
 go_wp2_with fail
 refine (HF2.out _ B2.out _ _ _ HSS2.out (Nat.le_refl _)).mono ?_
 rintro e w3 ⟨rfl, hb3⟩
 have B3 := Lib.hid (B2.out.trans (hb3.mono B2.out.size))
 have HSS3 := Lib.hid (rowSS_up (HSS2.out.below HM.out hb3 (Nat.le_refl _)) hb3.size)
 clear hb3 B2 HSS2 HF2
 rcases q1 with ⟨i, hi, ei, e1⟩ | ⟨no, e1⟩
 ·rcases q2 with ⟨j, hj, ej, e2⟩ | ⟨no, e2⟩
  ·have HF := Lib.hid (fun (D : Nat → Int) (hD : ∀ v, IsD (Ed (lnk T)) j v (D v)) cs b (hr : (0 ≤ D i ∧ D i ≤ (T.length : Int) ∧ b = true ∧ cs = wayG T D (D i).toNat i) ∨ (D i < 0 ∧ b = false ∧ cs = [])) => show WayR T L M cs b from .inl ⟨i, j, hi, hj, D, ei, ej, hD, hr⟩)
   have him : i < m := by rw [← HM.out]; exact hi
   have hiI : (i : Int) < (m : Int) := by omega
   have hjm : j < m := by rw [← HM.out]; exact hj
   have HDi := Lib.hid (HDs.out w3 A3 c3 w3.heap.size HSS3.out (Nat.le_refl _) j hj)
   have hi1 : ¬ (i : Int) < 0 := by omega
   have hj1 : ¬ (j : Int) < 0 := by omega
   rw [e1, e2]
   clear hi hj ei ej e1 e2 HDs
   go_wp2_with fail
   refine HDi.out.mono ?_
   rintro e w4 ⟨bd, D, rfl, hnr, hD, hDm, hb4⟩
   have B4 := Lib.hid (B3.out.trans (hb4.mono B3.out.size))
   have HSS4 := Lib.hid (rowSS_up (HSS3.out.below HM.out hb4 (Nat.le_refl _)) hb4.size)
   have cd := hnr.cell him
   have HNr := Lib.hid (show RdI w4 bd m D from ⟨hnr.lt.2, fun v hv => hnr.cell hv⟩)
   have HD := Lib.hid hD
   have hDi := isD_ge (hD i)
   have hDm := hDm i
   clear hnr hD hb4 HDi B3 HSS3
   by_cases hneg : D i < 0
   ·have h1 : D i = -1 := by omega
    rw [h1] at cd
    have HE := Lib.hid (show WayP T L M w (.returned (.tuple #[.slice none 0 0, .bool false])) w4 from ⟨[], false, none, 0, rfl, lit_nil (w := w), HF.out D HD.out [] false (.inr ⟨hneg, rfl, rfl⟩), B4.out⟩)
    clear hDi hDm hneg h1 HNe HSt
    go_wp2
    go_ret2
    exact HE.out
   ·obtain ⟨N, hN⟩ : ∃ N : Nat, D i = (N : Int) := ⟨(D i).toNat, by omega⟩
    have HE := Lib.hid (show ∀ cs A' c' wr, cs = wayG T D N i → wr.ownsRow w4.heap.size 67 2 (.slice A' cs.length c') cs.length (rowC cs) → Below w4.heap.size w4 wr → WayP T L M w (.returned (.tuple #[.slice A' cs.length c', .bool true])) wr from fun cs A' c' wr h1 h2 h3 => ⟨cs, true, A', c', rfl, own_base h2 B4.out.size, HF.out D HD.out cs true (.inl ⟨by omega, by rw [HM.out]; exact hDm, rfl, by rw [hN]; exact h1⟩), B4.out.trans (h3.mono B4.out.size)⟩)
    have hNm : N ≤ m := by omega
    have HNi := Lib.hid hN
    have hd1 : ¬ D i = -1 := by omega
    obtain ⟨d0, hd0⟩ : ∃ d0, D i = d0 := ⟨_, rfl⟩
    rw [hd0] at cd hd1
    have hdb : (d0 == (-1 : Int)) = false := by simp [hd1]
    clear hd1 hd0 hN hneg hDi hDm HF
    go_wp2_with fail
    go_loopg [12, 13] N (fun gg sw si wr => ∃ (i' : Nat) (cs : List (Int × Int)) (A' : Option Addr) (c' : Nat), si = .int .i64 i' ∧ sw = .slice A' cs.length c' ∧ Hid (i' < m ∧ D i' = (gg : Int) ∧ cs ++ wayG T D gg i' = wayG T D N i) ∧ Hid (wr.ownsRow w4.heap.size 67 2 (.slice A' cs.length c') cs.length (rowC cs)) ∧ Hid (Below w4.heap.size w4 wr))
    case atStart => exact ⟨i, [], none, 0, rfl, rfl, Lib.hid ⟨him, HNi.out, rfl⟩, Lib.hid (lit_nil (w := w)), Lib.hid (Below.refl _ _)⟩
    case round =>
     obtain ⟨i', cs, A', c', rfl, rfl, HK, HO, HB⟩ := hrel
     obtain ⟨him', hgg, hway⟩ := HK.out
     by_cases hij : i' = j
     ·subst hij
      have hz := isD_uniq (HD.out i') isD_self
      obtain rfl : gk = 0 := by omega
      have HE2 := Lib.hid (HE.out cs A' c' wr (by rw [← hway]; exact (List.append_nil cs).symm) HO.out HB.out)
      clear hz hway hgg HO HB HE HK HNi cd
      go_wp2
      go_ret2
      exact HE2.out
     ·obtain ⟨n', rfl⟩ : ∃ n', gk = n' + 1 := by
       rcases Nat.eq_zero_or_pos gk with h0 | h0
       ·subst h0
        have := HD.out i'
        rw [hgg] at this
        exact absurd (isD_zero this).symm hij
       ·exact ⟨gk - 1, by omega⟩
      have hiT : i' < T.length := by rw [HM.out]; exact him'
      obtain ⟨p, hp1, hp2, hp3, hp4⟩ := HSt.out D j HD.out i' n' hiT hgg
      have HNx := Lib.hid (HNe.out wr A3 c3 w4.heap.size (HSS4.out.below HM.out HB.out (Nat.le_refl _)) HB.out.size i' hiT bd D (HNr.out.on HB.out) ⟨p, hp1⟩)
      have hcl : cs.length ≤ 300 := by
       have h1 := congrArg List.length hway
       rw [List.length_append] at h1
       have := wayG_le T D N i
       omega
      have HP := Lib.hid (show p.2 < m ∧ D p.2 = (n' : Int) ∧ (cs ++ [p.1]) ++ wayG T D n' p.2 = wayG T D N i from ⟨by rw [← HM.out]; exact hp2, hp3, by rw [List.append_assoc]; rw [hp4] at hway; exact hway⟩)
      have hne : ¬ (i' : Int) = (j : Int) := by omega
      generalize fts T T[i'] = l at HNx hp1
      have HPp := Lib.hid hp1
      clear hway hgg hp1 hp2 hp3 hp4 HK HE HNi hiT cd
      go_wp2_with fail
      refine HNx.out.mono ?_
      rintro e w5 ⟨x, y, v, rfl, hf, hb5⟩
      rw [HPp.out] at hf
      injection hf with hf
      subst hf
      have HO5 := Lib.hid (own_below HO.out hb5 (Nat.le_refl _))
      have HB5 := Lib.hid (HB.out.trans (hb5.mono HB.out.size))
      have HBx := Lib.hid (HB5.out.alloc HB5.out.size (.cells #[.int .i64 x, .int .i64 y, .int .i64 (v : Int)] 69))
      have HOx := Lib.hid (HO5.out.alloc (.cells #[.int .i64 x, .int .i64 y, .int .i64 (v : Int)] 69))
      have HX := Lib.hid (At3I.new w5 x y (v : Int))
      clear HNx HPp hb5 HO HB
      go_upto_region 12 with fail
      generalize w5.alloc (.cells #[.int .i64 x, .int .i64 y, .int .i64 (v : Int)] 69) = Wb at HBx HOx HX ⊢
      generalize w5.heap.size = p at HX ⊢
      clear HO5 HB5
      have b0 := HX.out.c0
      have b1 := HX.out.c1
      have hbs := HBx.out.size
      have HXa := Lib.hid (fun o => HX.out.on (below_alloc1 Wb o))
      obtain ⟨cn, hcn⟩ : ∃ cn, cs.length = cn := ⟨_, rfl⟩
      have HCn := Lib.hid hcn
      rw [hcn] at hcl HOx ⊢
      clear hcn
      go_upto_region 13 with (first
       | (at_builtin; refine wpList_append_own _ rfl _ _ 31 rfl w4.heap.size 67 i0 (.agg #[.int .i64 0, .int .i64 0]) 2 16 Tryz.underlying31 hi0 hz0 hz1 hz2 rfl (by decide) _ cn (rowC cs) rfl (HOx.out.alloc _) ⟨Wb.heap.size, 0, none⟩ 1 1 [.int .i64 x, .int .i64 y] rfl rfl (World.news_of_block (cs := #[.int .i64 x, .int .i64 y]) (t := 67) (fr := (0, 0)) (heap_alloc_new Wb _)) (by simp [Value.oneCell']) (by unfold maxLen; omega) (by omega) (by simp; omega) ?_; intro v2 w6 hown6 hgrow6 _))
      have HX6 := Lib.hid (At3I.kept (HXa.out _) (HOx.out.alloc _) (by decide) hgrow6)
      have b2 := HX6.out.c2
      obtain ⟨A6, c6, rfl⟩ := own_shape hown6
      have HO6 := Lib.hid (show w6.ownsRow w4.heap.size 67 2 (.slice A6 (cs ++ [(x, y)]).length c6) (cs ++ [(x, y)]).length (rowC (cs ++ [(x, y)])) by rw [List.length_append, HCn.out, rowC_snoc]; exact hown6)
      have HB6 := Lib.hid ((HBx.out.alloc hbs _).grown hgrow6 (by simp; omega) (fun g hg => (HOx.out.lt g hg).1))
      clear hown6 hgrow6 HBx HOx b0 b1 HX HXa
      go_wp2
      go_roundg n'
      case measure => omega
      case rel => exact ⟨v, cs ++ [(x, y)], A6, c6, rfl, by rw [List.length_append, HCn.out]; rfl, HP, HO6, HB6⟩
  ·have HE := Lib.hid (show WayP T L M w (.returned (.tuple #[.slice none 0 0, .bool false])) w3 from ⟨[], false, none, 0, rfl, lit_nil (w := w), way_no (.inr no), B3.out⟩)
   have hi1 : ¬ (i : Int) < 0 := by omega
   rw [e1, e2]
   clear no e1 e2 ei HDs HSS3 HNe HSt
   go_wp2
   go_ret2
   exact HE.out
 ·have HE := Lib.hid (show WayP T L M w (.returned (.tuple #[.slice none 0 0, .bool false])) w3 from ⟨[], false, none, 0, rfl, lit_nil (w := w), way_no (.inl no), B3.out⟩)
  rw [e1]
  generalize idxR T M = z
  clear no e1 q2 HDs HSS3 HNe HSt
  go_wp2
  go_ret2
  exact HE.out
end Go.Proofs.YtmenmepdmojnfaaGreatDoor.Wg

namespace Go.Proofs.YtmenmepdmojnfaaGreatDoor.Wg
open Go.RowKit Go.Proofs.YtmenmepdmojnfaaGreatDoor.Dms Go.Proofs.YtmenmepdmojnfaaGreatDoor.Sets Go.Proofs.YtmenmepdmojnfaaGreatDoor.Reg
theorem exFlipWay (w : World) (A : Option Addr) (n cap : Nat) (xs : List Int) (hx : xs.length = n) (hn : (n : Int) ≤ 9223372036854775807) (h : RowB w w.heap.size A xs)
  (A' : Option Addr) (n' cap' : Nat) (L : List Dm) (hL : L.length = n') (hn' : (n' : Int) ≤ 9223372036854775807) (h' : RowM w w.heap.size A' L) (hf : Fits L)
  (A'' : Option Addr) (n'' cap'' : Nat) (M : List Dm) (hM : M.length = n'') (hn'' : (n'' : Int) ≤ 9223372036854775807) (h'' : RowM w w.heap.size A'' M) (hf' : Fits M) (hT : Tab w) :
  Calls Tryz.prog 6 #[.agg #[.slice A n cap], .slice A' n' cap', .slice A'' n'' cap''] w (Dom.Yes w) :=
 lawFlipWay iFlipWay w A n cap xs hx hn h A' n' cap' L hL hn' h' hf A'' n'' cap'' M hM hn'' h'' hf' hT
end Go.Proofs.YtmenmepdmojnfaaGreatDoor.Wg
