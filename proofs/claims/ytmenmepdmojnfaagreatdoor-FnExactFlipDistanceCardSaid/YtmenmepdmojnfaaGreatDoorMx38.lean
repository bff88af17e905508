/- IWd, EWd in one text. -/
import Derived.Test.YtmenmepdmojnfaaGreatDoorMx37
import Derived.Test.YtmenmepdmojnfaaGreatDoorMx28
import Derived.Test.YtmenmepdmojnfaaGreatDoorMx29

namespace Go.Proofs.YtmenmepdmojnfaaGreatDoor.Wg
set_option linter.unusedVariables false
set_option linter.unusedSimpArgs false
set_option maxRecDepth 100000
open Go.RowKit Go.Proofs.YtmenmepdmojnfaaGreatDoor.Dom Go.Proofs.YtmenmepdmojnfaaGreatDoor.Dms Go.Proofs.YtmenmepdmojnfaaGreatDoor.Til Go.Proofs.YtmenmepdmojnfaaGreatDoor.Dss Go.Proofs.YtmenmepdmojnfaaGreatDoor.Sets Go.Joins
open Go.Proofs.YtmenmepdmojnfaaGreatDoor.Lst (halfR_le listR listR_small listR_half iListTilings idxR)
open Go.Proofs.YtmenmepdmojnfaaGreatDoor.Ext (SSP halfR)
open Go.Proofs.YtmenmepdmojnfaaGreatDoor.Reg hiding Yes add_none RC rc_start

set_option maxHeartbeats 4000000 in
theorem iFlipDistance (w : World) (A : Option Addr) (n cap B : Nat) (xs : List Int) (hx : xs.length = n) (hn : (n : Int) ≤ 9223372036854775807) (hrow : RowB w B A xs) (hB : B ≤ w.heap.size) (hT : Tab w)
  (A1 : Option Addr) (n1 cap1 B1 : Nat) (L : List Dm) (hL : L.length = n1) (hn1 : (n1 : Int) ≤ 1048576) (hf1 : Fits L) (h1 : RowM w B1 A1 L) (hB1 : B1 ≤ w.heap.size)
  (A2 : Option Addr) (n2 cap2 B2 : Nat) (M : List Dm) (hM : M.length = n2) (hn2 : (n2 : Int) ≤ 1048576) (hf2 : Fits M) (h2 : RowM w B2 A2 M) (hB2 : B2 ≤ w.heap.size) :
  Calls Tryz.prog 10 #[.agg #[.slice A n cap], .slice A1 n1 cap1, .slice A2 n2 cap2] w (DisP (listR xs) L M w) := by
 have HLs := Lib.hid (fun W (hb : Below w.heap.size w W) => iListTilings W A n cap B xs hx hn (hrow.below hb hB) (by have := hb.size; omega) (hT.on hb (Nat.le_refl _)))
 have HS := Lib.hid (below_alloc1 w (.cells #[.slice A n cap] 26))
 have HR := Lib.hid (Rg.new w (.slice A n cap))
 have hsm := listR_small xs
 have hHf := listR_half (xs := xs)
 have hhf := halfR_le xs
 have hgd := list_gd xs
 unfold SSP at HLs
 generalize listR xs = T at HLs hsm hHf hgd ⊢
 generalize halfR xs = h at HLs hHf hhf
 have q1 := idx_two T L
 have q2 := idx_two T M
 obtain ⟨m, hm⟩ : ∃ m, T.length = m := ⟨_, rfl⟩
 have HM := Lib.hid hm
 rw [hm] at HLs hsm
 have HF1 := Lib.hid (fun W (hb : Below w.heap.size w W) A' c' B' (hr : RowSS W B' A' m h T) (hB' : B' ≤ W.heap.size) => iFind W A' m c' B' h T hm hsm hhf hHf hr hB' A1 n1 cap1 B1 L hL (by omega) (h1.below hb hB1) (by have := hb.size; omega))
 have HF2 := Lib.hid (fun W (hb : Below w.heap.size w W) A' c' B' (hr : RowSS W B' A' m h T) (hB' : B' ≤ W.heap.size) => iFind W A' m c' B' h T hm hsm hhf hHf hr hB' A2 n2 cap2 B2 M hM (by omega) (h2.below hb hB2) (by have := hb.size; omega))
 have HDs := Lib.hid (fun W A' c' B' (hr : RowSS W B' A' m h T) (hB' : B' ≤ W.heap.size) st (hst : st < T.length) => iDistances W A' m c' B' h T hm hsm hhf hHf hgd hr hB' st hst)
 have HSy := Lib.hid hgd.sy
 unfold DsP at HDs
 clear hx hn hrow hB hT hL hn1 hf1 h1 hB1 hM hn2 hf2 h2 hB2 hm hHf hgd
 go_enter Tryz.func10, Tryz.ntmps10
 go_wp2_with fail
 generalize w.alloc (.cells #[.slice A n cap] 26) = W0 at HS HR ⊢
 have c0 := HR.out.c0
 refine (HLs.out _ HS.out).mono ?_
 rintro e w1 ⟨A3, c3, rfl, hss, hb1⟩
 have B1 := Lib.hid (HS.out.trans (hb1.mono HS.out.size))
 have HSS := Lib.hid (ss_row hss)
 clear hss hb1 HS HR c0 HLs
 go_wp2_with fail
 refine (HF1.out _ B1.out _ _ _ HSS.out (Nat.le_refl _)).mono ?_
 rintro e w2 ⟨rfl, hb2⟩
 have B2 := Lib.hid (B1.out.trans (hb2.mono B1.out.size))
 have HSS2 := Lib.hid (rowSS_up (HSS.out.below HM.out hb2 (Nat.le_refl _)) hb2.size)
 clear hb2 B1 HSS HF1
 go_wp2_with fail
 refine (HF2.out _ B2.out _ _ _ HSS2.out (Nat.le_refl _)).mono ?_
 rintro e w3 ⟨rfl, hb3⟩
 have B3 := Lib.hid (B2.out.trans (hb3.mono B2.out.size))
 have HSS3 := Lib.hid (rowSS_up (HSS2.out.below HM.out hb3 (Nat.le_refl _)) hb3.size)
 clear hb3 B2 HSS2 HF2
 rcases q1 with ⟨i, hi, ei, e1⟩ | ⟨no, e1⟩
 ·rcases q2 with ⟨j, hj, ej, e2⟩ | ⟨no, e2⟩
  ·have HF := Lib.hid (fun d (hd : IsD (Ed (lnk T)) i j d) => show DisR T L M d from .inl ⟨i, j, hi, hj, ei, ej, isD_rev HSy.out hd⟩)
   have hjm : j < m := by rw [← HM.out]; exact hj
   have hjI : (j : Int) < (m : Int) := by omega
   have HDi := Lib.hid (HDs.out w3 A3 c3 w3.heap.size HSS3.out (Nat.le_refl _) i hi)
   have hi0 : ¬ (i : Int) < 0 := by omega
   have hj0 : ¬ (j : Int) < 0 := by omega
   rw [e1, e2]
   clear hi hj ei ej e1 e2 HDs HSS3
   go_wp2_with fail
   refine HDi.out.mono ?_
   rintro e w4 ⟨bd, D, rfl, hnr, hD, _, hb4⟩
   have B4 := Lib.hid (B3.out.trans (hb4.mono B3.out.size))
   have cd := hnr.cell hjm
   have HE := Lib.hid (HF.out _ (hD j))
   clear hnr hD hb4 HDi B3 HF
   generalize D j = d at cd HE
   go_wp2
   go_ret
   exact ⟨d, rfl, HE.out, B4.out⟩
  ·have HF := Lib.hid (dis_no (L := L) (.inr no))
   have hi0 : ¬ (i : Int) < 0 := by omega
   rw [e1, e2]
   clear no e1 e2 ei HDs HSS3
   go_wp2
   go_ret
   exact ⟨-1, rfl, HF.out, B3.out⟩
 ·have HF := Lib.hid (dis_no (M := M) (.inl no))
  rw [e1]
  generalize idxR T M = z
  clear no e1 q2 HDs HSS3
  go_wp2
  go_ret
  exact ⟨-1, rfl, HF.out, B3.out⟩
end Go.Proofs.YtmenmepdmojnfaaGreatDoor.Wg

namespace Go.Proofs.YtmenmepdmojnfaaGreatDoor.Wg
open Go.RowKit Go.Proofs.YtmenmepdmojnfaaGreatDoor.Dms Go.Proofs.YtmenmepdmojnfaaGreatDoor.Sets Go.Proofs.YtmenmepdmojnfaaGreatDoor.Reg
theorem exFlipDistance (w : World) (A : Option Addr) (n cap : Nat) (xs : List Int) (hx : xs.length = n) (hn : (n : Int) ≤ 9223372036854775807) (h : RowB w w.heap.size A xs)
  (A' : Option Addr) (n' cap' : Nat) (L : List Dm) (hL : L.length = n') (hn' : (n' : Int) ≤ 9223372036854775807) (h' : RowM w w.heap.size A' L) (hf : Fits L)
  (A'' : Option Addr) (n'' cap'' : Nat) (M : List Dm) (hM : M.length = n'') (hn'' : (n'' : Int) ≤ 9223372036854775807) (h'' : RowM w w.heap.size A'' M) (hf' : Fits M) (hT : Tab w) :
  Calls Tryz.prog 5 #[.agg #[.slice A n cap], .slice A' n' cap', .slice A'' n'' cap''] w (Dom.Yes w) :=
 lawFlipDistance iFlipDistance w A n cap xs hx hn h A' n' cap' L hL hn' h' hf A'' n'' cap'' M hM hn'' h'' hf' hT
end Go.Proofs.YtmenmepdmojnfaaGreatDoor.Wg
