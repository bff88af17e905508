/- FrL in one text. -/
import Derived.Test.YtjfagpmklifjlaaMg23
import Derived.Test.YtjfagpmklifjlaaMg29
import Derived.Test.YtjfagpmklifjlaaMg28
import Derived.Test.YtjfagpmklifjlaaMg20
import Derived.Test.YtjfagpmklifjlaaMg30
import Derived.Test.YtjfagpmklifjlaaMg17

namespace Go.Proofs.Ytjfagpmklifjlaa.Frd
set_option linter.unusedVariables false
set_option linter.unusedSimpArgs false
set_option maxRecDepth 100000
open Go.RowKit Go.Proofs.Ytjfagpmklifjlaa.Pure Go.Proofs.Ytjfagpmklifjlaa.Cell Go.Proofs.Ytjfagpmklifjlaa.Cels Go.Proofs.Ytjfagpmklifjlaa.Dom Go.Proofs.Ytjfagpmklifjlaa.Dms Go.Proofs.Ytjfagpmklifjlaa.Til Go.Proofs.Ytjfagpmklifjlaa.Dss Go.Proofs.Ytjfagpmklifjlaa.Fr Go.Joins
open Go.Proofs.Ytjfagpmklifjlaa.Cnt (tilesR)
open Go.Proofs.Ytjfagpmklifjlaa.Prof (sCountWith sCountTilings)
open Go.Proofs.Ytjfagpmklifjlaa.Lis (allT)
open Go.Proofs.Ytjfagpmklifjlaa.LisU (listR listR_half halfR halfR_le SSP sListTilings)
open Go.Proofs.Ytjfagpmklifjlaa.Tile (drawTileable)
open Go.Proofs.Ytjfagpmklifjlaa.Draw (IsRow big row_len coded_of_row at0)
open Go.Proofs.Ytjfagpmklifjlaa.Reg hiding RC rc_start

structure FL (w : World) (pr : Nat) (va : Value) (Ar : Option Addr) (ys : List Int) (Af : Option Addr) (F : List Dm) (Ap : Option Addr) (P : List Dm) (b : Nat) (S : List (Option Addr × Nat)) (h : Nat) (T : List (List Dm)) (pz : Nat) (vz : Value) (Az : Option Addr) (zs : List Int) (W : World) : Prop where
 bel : Below w.heap.size w W
 box : Rg W pr va
 row : RowB W W.heap.size Ar ys
 f : RowM W W.heap.size Af F
 p : RowM W W.heap.size Ap P
 lt : b < W.heap.size
 ls : ∀ (i : Nat) (s : Option Addr × Nat) (x : List Dm), S[i]? = some s → T[i]? = some x → W.cell? ⟨b, i, none⟩ = some (.slice s.1 h s.2) ∧ RowM W W.heap.size s.1 x
 zbox : Rg W pz vz
 zrow : RowB W W.heap.size Az zs
theorem rowB_on {W W' : World} {A : Option Addr} {xs : List Int} (h : RowB W W.heap.size A xs) (hb : Below W.heap.size W W') : RowB W' W'.heap.size A xs := (h.below hb (Nat.le_refl _)).mono hb.size
theorem rowM_on {W W' : World} {A : Option Addr} {L : List Dm} (h : RowM W W.heap.size A L) (hb : Below W.heap.size W W') : RowM W' W'.heap.size A L := (h.below hb (Nat.le_refl _)).mono hb.size
section
variable {w W W' : World} {pr : Nat} {va : Value} {Ar : Option Addr} {ys : List Int} {Af : Option Addr} {F : List Dm} {Ap : Option Addr} {P : List Dm} {b : Nat} {S : List (Option Addr × Nat)} {h : Nat} {T : List (List Dm)} {pz : Nat} {vz : Value} {Az : Option Addr} {zs : List Int}
theorem FL.on (k : FL w pr va Ar ys Af F Ap P b S h T pz vz Az zs W) (hb : Below W.heap.size W W') : FL w pr va Ar ys Af F Ap P b S h T pz vz Az zs W' :=
 ⟨k.bel.trans (hb.mono k.bel.size), k.box.on hb, rowB_on k.row hb, rowM_on k.f hb, rowM_on k.p hb, Nat.lt_of_lt_of_le k.lt hb.size, fun i s x hs hx => ⟨(hb.cell (p := ⟨b, i, none⟩) k.lt).trans (k.ls i s x hs hx).1, rowM_on (k.ls i s x hs hx).2 hb⟩, k.zbox.on hb, rowB_on k.zrow hb⟩
end

set_option maxHeartbeats 8000000 in
theorem forced_law (A : Option Addr) (len cap : Nat) (zs0 : List Int) (w : World) (h0 : IsRow .u8 w A len cap zs0) :
  Calls Try.prog 3 #[.slice A len cap] w fun e w' => e = .returned (.bool true) ∧ Below w.heap.size w w' := by
 have hlen := row_len h0
 by_cases hbig : (1048576 : Int) < (len : Int)
 ·go_enter Try.func3, Try.ntmps3
  go_wp2_with fail
  refine (big w A len cap hlen).mono ?_
  rintro e w' ⟨rfl, rfl⟩
  go_wp2
  go_ret
  exact ⟨rfl, Below.refl _ _⟩
 ·have HC := Lib.hid (coded_of_row h0 (by omega))
  have HA0 := Lib.hid (fun W (hb : Below w.heap.size w W) => at0 W A len cap w.heap.size HC.out.1 (HC.out.2.below hb))
  clear h0
  go_enter Try.func3, Try.ntmps3
  go_wp2_with fail
  refine (big w A len cap hlen).mono ?_
  rintro e w' ⟨rfl, rfl⟩
  go_wp2_with fail
  refine (drawTileable w A len cap HC.out).mono ?_
  rintro e w1 ⟨ys, Ar, n, cr, HO, HX, rfl, hown, hb1⟩
  have hcap := own_none hown
  have HB1 := Lib.hid (hb1.alloc hb1.size (.cells #[.slice Ar n cr] 26))
  have HR1 := Lib.hid (Rg.new w1 (.slice Ar n cr))
  have HQ1 := Lib.hid (rowB_on (rowB_own hown) (below_alloc1 w1 (.cells #[.slice Ar n cr] 26)))
  clear hown hb1 HC
  go_upto_region 4 with fail
  have B1 := HB1.out
  have R1 := HR1.out
  have Q1 := HQ1.out
  generalize w1.alloc (.cells #[.slice Ar n cr] 26) = W1 at B1 R1 Q1 ⊢
  generalize w1.heap.size = pr at R1 ⊢
  clear HB1 HR1 HQ1
  have FF := forF HO.out.1 HO.out.2.1 HO.out.2.2
  have hn8 : n ≤ 8 := by have := HO.out.1.1; have := HX.out; omega
  have hnI : (n : Int) ≤ 1048576 := by omega
  have hhf := halfR_le ys
  have HFo := Lib.hid (fun W (q : RowB W W.heap.size Ar ys) => iForced W Ar n cr W.heap.size ys HX.out hnI q (Nat.le_refl _) hcap)
  have HPo := Lib.hid (fun W (q : RowB W W.heap.size Ar ys) => iPossible W Ar n cr W.heap.size ys HX.out hnI q (Nat.le_refl _) hcap)
  have HLs := Lib.hid (fun W (q : RowB W W.heap.size Ar ys) => FF.lst ▸ sListTilings W Ar n cr W.heap.size ys HX.out (by omega) q (Nat.le_refl _))
  have HFr := Lib.hid (fun W (q : RowB W W.heap.size Ar ys) => by
   have := iFreeRegion W Ar n cr W.heap.size ys HX.out hnI q (Nat.le_refl _) hcap
   rw [FF.len] at this
   exact this)
  have HCe := Lib.hid (fun W (q : RowB W W.heap.size Ar ys) => sCellsOf W Ar n cr W.heap.size ys HX.out (by omega) q (Nat.le_refl _))
  have HOv := Lib.hid (fun W (q : RowB W W.heap.size Ar ys) x y => iCountOver W Ar n cr W.heap.size ys HX.out hnI q (Nat.le_refl _) hcap x y)
  have HSh := Lib.hid (fun W (q : RowB W W.heap.size Ar ys) d (hd : d ∈ possD ys) => iShareOf W Ar n cr W.heap.size ys HX.out hnI q (Nat.le_refl _) hcap d.1 d.2.1 d.2.2 (FF.small d hd).1 (FF.small d hd).2)
  have HCw := Lib.hid (fun W (q : RowB W W.heap.size Ar ys) d => show Calls Try.prog 21 #[.agg #[.slice Ar n cr], .agg #[.int .i64 d.1, .int .i64 d.2.1, .bool d.2.2]] W (Num (cW ys d) W) from sCountWith W Ar n cr W.heap.size ys HX.out hnI q (Nat.le_refl _) hcap d.1 d.2.1 d.2.2)
  have HTz := Lib.hid (fun Az cz W (q : RowB W W.heap.size Az (freeR ys)) => by
   have := sCountTilings W Az 8 cz W.heap.size (freeR ys) FF.len (by omega) q (Nat.le_refl _)
   rw [FF.til] at this
   exact this)
  have HFz := Lib.hid (fun Az cz (hc : Az = none → 8 = 0 ∧ cz = 0) W (q : RowB W W.heap.size Az (freeR ys)) => by
   have := iForced W Az 8 cz W.heap.size (freeR ys) FF.len (by omega) q (Nat.le_refl _) hc
   rw [FF.non] at this
   exact this)
  have HCz := Lib.hid (fun Az cz W (q : RowB W W.heap.size Az (freeR ys)) => sCountCells W Az 8 cz W.heap.size (freeR ys) FF.len (by omega) q (Nat.le_refl _))
  have HCel := Lib.hid FF.cel
  have HShr := Lib.hid FF.shr
  have HChg := Lib.hid FF.chg
  have HHal := Lib.hid (show ∀ L ∈ allT ys, L.length = halfR ys from fun L hL => listR_half L (by rw [FF.lst]; exact hL))
  have hone := FF.one
  have hfew := FF.few
  have hcls := FF.cls
  have hcl64 := cellsR_length ys
  have hpl := poss_len ys
  have hfl : (forcD ys).length ≤ 128 := by rw [← inT_all]; exact Nat.le_trans (List.length_filter_le _ _) hpl
  clear FF HO HX hcap hnI hn8
  unfold DmPost at HFo HPo HFz
  unfold SSP at HLs
  unfold RegPost at HFr
  unfold NbPost at HCe
  unfold TwoP at HSh
  simp only [List.length_nil] at HFz
  generalize countR (freeR ys) = nz at HCz hcls
  generalize freeR ys = zs at HFr HTz HFz HCz
  generalize cW ys = cw at HCw HShr
  generalize shareR ys = sh at HSh HShr
  generalize forcD ys = F at HFo HCel HChg hcls hfl
  generalize possD ys = P at HPo HOv HSh HCel HShr HChg hpl
  generalize cellsR ys = C at HCe HCel hcls hcl64
  generalize allT ys = T at HLs HTz HShr HChg HHal hone hfew
  generalize halfR ys = h at HLs HHal hhf
  obtain ⟨nf, hnf⟩ : ∃ nf, F.length = nf := ⟨_, rfl⟩
  obtain ⟨np, hnp⟩ : ∃ np, P.length = np := ⟨_, rfl⟩
  obtain ⟨m, hm⟩ : ∃ m, T.length = m := ⟨_, rfl⟩
  obtain ⟨nc, hnc⟩ : ∃ nc, C.length = nc := ⟨_, rfl⟩
  rw [hnf] at HFo hcls hfl
  rw [hnp] at HPo hpl
  rw [hm] at HLs HTz HShr hone hfew
  rw [hnc] at HCe hcls hcl64
  have HNf := Lib.hid hnf
  have HNp := Lib.hid hnp
  have HM := Lib.hid hm
  have HNc := Lib.hid hnc
  have HCls := Lib.hid hcls
  clear hnf hnp hm hnc
  have c0 := R1.c0
  go_wp2_with fail
  refine (HFo.out _ Q1).mono ?_
  rintro e w2 ⟨Af, cf, rfl, _, hown2, hb2⟩
  have B2 := B1.trans (hb2.mono B1.size)
  have R2 := R1.on hb2
  have Q2 := rowB_on Q1 hb2
  have D2 := rowM_own hown2
  clear B1 R1 Q1 hown2 hb2 c0 HFo
  have c0 := R2.c0
  go_wp2_with fail
  refine (HPo.out _ Q2).mono ?_
  rintro e w3 ⟨Ap, cp, rfl, _, hown3, hb3⟩
  have B3 := B2.trans (hb3.mono B2.size)
  have R3 := R2.on hb3
  have Q3 := rowB_on Q2 hb3
  have D3 := rowM_on D2 hb3
  have E3 := rowM_own hown3
  clear B2 R2 Q2 D2 hown3 hb3 c0 HPo
  have c0 := R3.c0
  go_wp2_with fail
  refine (HLs.out _ Q3).mono ?_
  rintro e w4 ⟨Al, cl, rfl, hss, hb4⟩
  have hrr := ss_row hss
  obtain ⟨b, S, s1, s2, s3⟩ := hrr
  obtain ⟨rfl, hbl⟩ := s2 (by omega)
  have B4 := B3.trans (hb4.mono B3.size)
  have R4 := R3.on hb4
  have Q4 := rowB_on Q3 hb4
  have D4 := rowM_on D3 hb4
  have E4 := rowM_on E3 hb4
  have HSl := Lib.hid (show S.length = m by rw [s1, HM.out])
  have HS3 := Lib.hid s3
  clear B3 R3 Q3 D3 E3 hss hb4 s1 s2 s3 c0 HLs
  have c0 := R4.c0
  go_wp2_with fail
  refine (HFr.out _ Q4).mono ?_
  rintro e w5 ⟨Az, cz, rfl, hown5, hb5⟩
  have HCapz := Lib.hid (own_none hown5)
  have HK := Lib.hid (show FL w pr (.slice Ar n cr) Ar ys Af F Ap P b S h T w5.heap.size (.slice Az 8 cz) Az zs (w5.alloc (.cells #[.slice Az 8 cz] 26)) from by
   have bl := below_alloc1 w5 (.cells #[.slice Az 8 cz] 26)
   have hb6 := hb5.trans (bl.mono hb5.size)
   exact ⟨B4.trans (hb6.mono B4.size), R4.on hb6, rowB_on Q4 hb6, rowM_on D4 hb6, rowM_on E4 hb6, Nat.lt_of_lt_of_le hbl hb6.size, fun i s x hs hx => ⟨(hb6.cell (p := ⟨b, i, none⟩) hbl).trans (HS3.out i s x hs hx).1, rowM_on (HS3.out i s x hs hx).2 hb6⟩, Rg.new w5 _, rowB_on (rowB_own hown5) bl⟩)
  clear B4 R4 Q4 D4 E4 hbl HS3 hown5 hb5 c0 HFr
  go_upto_region 8 with fail
  have K1 := HK.out
  generalize w5.alloc (.cells #[.slice Az 8 cz] 26) = W6 at K1 ⊢
  generalize w5.heap.size = pz at K1 ⊢
  have HK1 := Lib.hid K1
  have HTz := Lib.hid (fun W q => HTz.out Az cz W q)
  have HFz := Lib.hid (fun W q => HFz.out Az cz HCapz.out W q)
  have HCz := Lib.hid (fun W q => HCz.out Az cz W q)
  clear HK K1 HCapz
  go_wp2_with fail
  go_loopw [8] (fun si wr => ∃ t : Nat, t ≤ m ∧ si = .int .i64 t ∧ Hid (FL w pr (.slice Ar n cr) Ar ys Af F Ap P b S h T pz (.slice Az 8 cz) Az zs wr)) (fun si _ => m - (intOf si).toNat)
  case atStart => exact ⟨0, Nat.zero_le _, rfl, HK1⟩
  case round =>
   clear HK1
   obtain ⟨t, ht, rfl, HK⟩ := hrel
   by_cases hlt : t < m
   ·have htT : t < T.length := by rw [HM.out]; exact hlt
    have htS : t < S.length := by rw [HSl.out]; exact hlt
    have hmemL := List.getElem_mem htT
    obtain ⟨cl1, rl1⟩ := HK.out.ls t S[t] T[t] (List.getElem?_eq_getElem htS) (List.getElem?_eq_getElem htT)
    obtain ⟨ch1, ch2⟩ := HChg.out T[t] hmemL
    have hLh := HHal.out T[t] hmemL
    have HLs2 := Lib.hid (fun W (k : FL w pr (.slice Ar n cr) Ar ys Af F Ap P b S h T pz (.slice Az 8 cz) Az zs W) => (k.ls t S[t] T[t] (List.getElem?_eq_getElem htS) (List.getElem?_eq_getElem htT)))
    generalize S[t] = s at cl1 rl1 HLs2
    generalize T[t] = L at rl1 ch1 ch2 hLh HLs2
    have HC1 := Lib.hid (fun W (k : FL w pr (.slice Ar n cr) Ar ys Af F Ap P b S h T pz (.slice Az 8 cz) Az zs W) => show Calls Try.prog 15 #[.slice s.1 h s.2, .slice Ap np cp] W (Num 0 W) from by
     have := sCountChanges W s.1 h s.2 W.heap.size L hLh (by omega) (HLs2.out W k).2 (Nat.le_refl _) Ap np cp W.heap.size P HNp.out (by omega) k.p (Nat.le_refl _)
     rw [ch1] at this
     exact this)
    have HC2 := Lib.hid (fun W (k : FL w pr (.slice Ar n cr) Ar ys Af F Ap P b S h T pz (.slice Az 8 cz) Az zs W) => show Calls Try.prog 15 #[.slice Af nf cf, .slice s.1 h s.2] W (Num 0 W) from by
     have := sCountChanges W Af nf cf W.heap.size F HNf.out (by omega) k.f (Nat.le_refl _) s.1 h s.2 W.heap.size L hLh (by omega) (HLs2.out W k).2 (Nat.le_refl _)
     rw [ch2] at this
     exact this)
    obtain ⟨sa, sc⟩ := s
    simp only at cl1 HLs2 HC1 HC2
    have HLc := Lib.hid (fun W k => (HLs2.out W k).1)
    have htm : (t : Int) < (m : Int) := by omega
    clear rl1 ch1 ch2 hLh HLs2 htT htS hmemL
    go_wp2_with fail
    refine (HC1.out _ HK.out).mono ?_
    rintro e w7 ⟨rfl, hb7⟩
    have K2 := HK.out.on hb7
    have cl1 := HLc.out _ K2
    clear HK hb7 HC1
    go_wp2_with fail
    refine (HC2.out _ K2).mono ?_
    rintro e w8 ⟨rfl, hb8⟩
    have HK3 := Lib.hid (K2.on hb8)
    clear K2 cl1 hb8 HC2 HLc
    go_wp2
    go_roundw
    case rel => exact ⟨t + 1, by omega, by go_num, HK3⟩
    case measure => (simp [intOf] <;> omega)
   ·obtain rfl : m = t := by omega
    have K2 := HK.out
    have c0 := K2.box.c0
    clear HK HChg HHal hlt ht
    go_wp2_with fail
    refine (HCe.out _ K2.row).mono ?_
    rintro e w7 ⟨Ac, cc, rfl, hown7, hb7⟩
    obtain ⟨bc, ob, hlb, hob, hsrc, hbz⟩ := src_cells (z := pr) hown7 (by have := K2.box.lt; have := hb7.size; omega)
    obtain ⟨off, hA1, hR1⟩ := hsrc
    have HAc := Lib.hid hA1
    have HRd := Lib.hid hR1
    have HK4 := Lib.hid (show FL w pr (.slice Ar n cr) Ar ys Af F Ap P b S h T pz (.slice Az 8 cz) Az zs w7 ∧ bc < w7.heap.size ∧ w7.heap[bc]? = ob from ⟨K2.on hb7, hlb, hob⟩)
    rw [HNc.out] at HAc
    clear K2 c0 hown7 hb7 hlb hob hbz hA1 hR1 HCe
    go_wp2_with fail
    go_loopw [10] (fun si wr => ∃ j : Nat, j ≤ nc ∧ si = .int .i64 j ∧ Hid (FL w pr (.slice Ar n cr) Ar ys Af F Ap P b S h T pz (.slice Az 8 cz) Az zs wr ∧ bc < wr.heap.size ∧ wr.heap[bc]? = ob)) (fun si _ => nc - (intOf si).toNat)
    case atStart => exact ⟨0, Nat.zero_le _, rfl, HK4⟩
    case round =>
     clear HK4
     obtain ⟨j, hj, rfl, HK⟩ := hrel
     by_cases hlt : j < nc
     ·have hjC : j < C.length := by rw [HNc.out]; exact hlt
      obtain rfl := HAc.out (by omega)
      obtain ⟨K2, l2, b2⟩ := HK.out
      have HRj := Lib.hid (fun W hW => HRd.out W hW j hjC)
      have hce := HCel.out C[j].1 C[j].2 (List.getElem_mem hjC)
      generalize C[j] = p at HRj hce
      obtain ⟨x, y⟩ := p
      simp only at HRj hce
      have HOx := Lib.hid (fun W q => HOv.out W q x y)
      obtain ⟨N, hN⟩ : ∃ N, (overL P x y).length = N := ⟨_, rfl⟩
      unfold CellF at hce
      rw [hN] at hce HOx
      obtain ⟨n1, n4, niff⟩ := hce
      have HDa := Lib.hid (fun W (k : FL w pr (.slice Ar n cr) Ar ys Af F Ap P b S h T pz (.slice Az 8 cz) Az zs W) => sDominoAt W Af nf cf W.heap.size F HNf.out (by omega) k.f (Nat.le_refl _) x y)
      have hneg := atI_neg (L := F) (x := x) (y := y)
      generalize atI F x y = q at HDa hneg
      have hcase : (N = 1 ∧ 0 ≤ q) ∨ (N ≠ 1 ∧ q < 0) := by
       by_cases e1 : anyM F x y = true
       ·left; rw [e1] at hneg; exact ⟨niff.2 e1, by have := of_decide_eq_false hneg; omega⟩
       ·right
        refine ⟨fun e => e1 (niff.1 e), ?_⟩
        rw [Bool.not_eq_true] at e1
        rw [e1] at hneg
        exact of_decide_eq_true hneg
      have HCs := Lib.hid hcase
      have hN1 : ¬ (N : Int) < 1 := by omega
      have hN4 : ¬ (4 : Int) < (N : Int) := by omega
      have hjn : (j : Int) < (nc : Int) := by omega
      clear hN niff hneg hcase HK n1 n4
      go_upto_region 17 with fail
      refine wp_region_noPanic ?_
      have K3 := K2.on (drewN_below (Below.refl _ wr) 1)
      have l3 : bc < wr.drew.heap.size := l2
      have b3 : wr.drew.heap[bc]? = ob := b2
      have K3 : FL w pr (.slice Ar n cr) Ar ys Af F Ap P b S h T pz (.slice Az 8 cz) Az zs wr.drew := K3
      have HSc := Lib.hid (fun (W : World) (k : FL w pr (.slice Ar n cr) Ar ys Af F Ap P b S h T pz (.slice Az 8 cz) Az zs W) (hW : W.heap[bc]? = ob) => show W.cell? ⟨pr, 0, none⟩ = some (.slice Ar n cr) ∧ W.cell? ⟨bc, off + j * 2, none⟩ = some (.int .i64 x) ∧ W.cell? ⟨bc, off + j * 2 + 1, none⟩ = some (.int .i64 y) from ⟨k.box.c0, HRj.out W hW⟩)
      refine wp_region_held_drew (S := fun w' => w'.cell? ⟨pr, 0, none⟩ = some (.slice Ar n cr) ∧ w'.cell? ⟨bc, off + j * 2, none⟩ = some (.int .i64 x) ∧ w'.cell? ⟨bc, off + j * 2 + 1, none⟩ = some (.int .i64 y)) (by kernel_rfl) (HSc.out _ K3 b3) (fun hHeld => ?_)
      generalize wr.drew = W7 at K3 l3 b3 hHeld ⊢
      clear K2 l2 b2
      refine wpAnyH_take (i := 0) (v := ?_) rfl (by kernel_rfl) (by kernel_rfl) (by kernel_rfl) (fun _ _ _ h => h) (Or.inl ⟨by rfl, ?_⟩) (by assumption) ?_
      rotate_left
      ·(intro w' hS; (try dsimp only at hS); go_simp; try with_reducible rfl)
      try simp only [Act.put, List.getElem_toArray, List.getElem_cons_succ, List.getElem_cons_zero, List.setIfInBounds_toArray, List.set_cons_zero, List.set_cons_succ]
      refine wpAnyH_take (i := 1) (v := ?_) rfl (by kernel_rfl) (by kernel_rfl) (by kernel_rfl) (fun _ _ _ h => h) (Or.inl ⟨by rfl, ?_⟩) (by assumption) ?_
      rotate_left
      ·(intro w' hS; (try dsimp only at hS); go_simp; try with_reducible rfl)
      try simp only [Act.put, List.getElem_toArray, List.getElem_cons_succ, List.getElem_cons_zero, List.setIfInBounds_toArray, List.set_cons_zero, List.set_cons_succ]
      refine wpAnyH_take (i := 2) (v := ?_) rfl (by kernel_rfl) (by kernel_rfl) (by kernel_rfl) (fun _ _ _ h => h) (Or.inl ⟨by rfl, ?_⟩) (by assumption) ?_
      rotate_left
      ·(intro w' hS; (try dsimp only at hS); go_simp; try with_reducible rfl)
      try simp only [Act.put, List.getElem_toArray, List.getElem_cons_succ, List.getElem_cons_zero, List.setIfInBounds_toArray, List.set_cons_zero, List.set_cons_succ]
      refine wpAnyH_take (i := 3) (v := ?_) rfl (by kernel_rfl) (by kernel_rfl) (by kernel_rfl) (fun _ _ _ h => h) (Or.inl ⟨by rfl, ?_⟩) (by assumption) ?_
      rotate_left
      ·(intro w' hS; (try dsimp only at hS); go_simp; try with_reducible rfl)
      try simp only [Act.put, List.getElem_toArray, List.getElem_cons_succ, List.getElem_cons_zero, List.setIfInBounds_toArray, List.set_cons_zero, List.set_cons_succ]
      refine wpAnyH_take (i := 4) (v := ?_) rfl (by kernel_rfl) (by kernel_rfl) (by kernel_rfl) (fun _ _ _ h => h) (Or.inl ⟨by rfl, ?_⟩) (by assumption) ?_
      rotate_left
      ·(intro w' hS; (try dsimp only at hS); go_simp; try with_reducible rfl)
      try simp only [Act.put, List.getElem_toArray, List.getElem_cons_succ, List.getElem_cons_zero, List.setIfInBounds_toArray, List.set_cons_zero, List.set_cons_succ]
      refine wpAnyH_ready (rs := [5]) (by kernel_rfl) (by simp) ?_
      refine AllReadyH.cons rfl (fun K hK => ?_) AllReadyH.nil
      go_simp
      refine (HOx.out _ K3.row).mono ?_
      rintro e wx ⟨rfl, hbx⟩
      have b3 := (hbx.block bc l3).trans b3
      have l3 := Nat.lt_of_lt_of_le l3 hbx.size
      have K3 := K3.on hbx
      clear hbx
      go_wp2_with fail
      refine hK.out _ _ (HSc.out _ K3 b3) (fun hHeld => ?_)
      clear hK K
      try simp only [Act.put, List.getElem_toArray, List.getElem_cons_succ, List.getElem_cons_zero, List.setIfInBounds_toArray, List.set_cons_zero, List.set_cons_succ]
      refine wpAnyH_take (i := 6) (v := ?_) rfl (by kernel_rfl) (by kernel_rfl) (by kernel_rfl) (fun _ _ _ h => h) (Or.inl ⟨by rfl, ?_⟩) (by assumption) ?_
      rotate_left
      ·(intro w' hS; (try dsimp only at hS); go_simp; try with_reducible rfl)
      try simp only [Act.put, List.getElem_toArray, List.getElem_cons_succ, List.getElem_cons_zero, List.setIfInBounds_toArray, List.set_cons_zero, List.set_cons_succ]
      refine wpAnyH_done (by kernel_rfl) ?_ _
      refine NoPanic.normal ?_
      obtain ⟨_, e0, e1⟩ := HSc.out _ K3 b3
      clear hHeld HOx
      rcases HCs.out with ⟨ha, hq⟩ | ⟨ha, hq⟩
      ·have hEq : ((N : Int) == 1) = true := by simp [ha]
       go_wp2_with fail
       refine (HDa.out _ K3).mono ?_
       rintro e w9 ⟨rfl, hb9⟩
       have HK5 := Lib.hid (show FL w pr (.slice Ar n cr) Ar ys Af F Ap P b S h T pz (.slice Az 8 cz) Az zs w9 ∧ bc < w9.heap.size ∧ w9.heap[bc]? = ob from ⟨K3.on hb9, Nat.lt_of_lt_of_le l3 hb9.size, (hb9.block bc l3).trans b3⟩)
       clear K3 l3 b3 e0 e1 hb9 HDa HSc HRj HCs ha
       go_wp2
       go_roundw
       case rel => exact ⟨j + 1, by omega, by go_num, HK5⟩
       case measure => (simp [intOf] <;> omega)
      ·have hEq : ((N : Int) == 1) = false := by simp; omega
       have hq2 : ¬ 0 ≤ q := by omega
       go_wp2_with fail
       refine (HDa.out _ K3).mono ?_
       rintro e w9 ⟨rfl, hb9⟩
       have HK5 := Lib.hid (show FL w pr (.slice Ar n cr) Ar ys Af F Ap P b S h T pz (.slice Az 8 cz) Az zs w9 ∧ bc < w9.heap.size ∧ w9.heap[bc]? = ob from ⟨K3.on hb9, Nat.lt_of_lt_of_le l3 hb9.size, (hb9.block bc l3).trans b3⟩)
       clear K3 l3 b3 e0 e1 hb9 HDa HSc HRj HCs ha
       go_wp2
       go_roundw
       case rel => exact ⟨j + 1, by omega, by go_num, HK5⟩
       case measure => (simp [intOf] <;> omega)
     ·obtain rfl : nc = j := by omega
      have K2 := HK.out.1
      have hcl := HCls.out
      have hmm : ((m : Int) == (m : Int)) = true := by simp
      have w1' : IntKind.i64.wrap (2 * (nf : Int)) = 2 * (nf : Int) := by rw [IntKind.wrap_i64]; omega
      have w2' : wrap64 (2 * (nf : Int)) = 2 * (nf : Int) := by unfold wrap64; omega
      have w3' : IntKind.i64.wrap (nz + 2 * (nf : Int)) = (nc : Int) := by rw [IntKind.wrap_i64]; omega
      have w4' : wrap64 (nz + 2 * (nf : Int)) = (nc : Int) := by unfold wrap64; omega
      have w5' : ((nc : Int) == (nc : Int)) = true := by simp
      clear HK HCel HOv hlt hj hcl HCls
      by_cases hp0 : np = 0
      ·have hpg : ¬ (0 : Int) < (np : Int) := by omega
       have c0 := K2.box.c0
       have z0 := K2.zbox.c0
       clear c0
       go_wp2_with fail
       refine (HTz.out _ K2.zrow).mono ?_
       rintro e w30 ⟨rfl, hb30⟩
       have E1 := K2.on hb30
       clear K2 hb30 z0
       have z0 := E1.zbox.c0
       go_wp2_with fail
       refine (HFz.out _ E1.zrow).mono ?_
       rintro e w31 ⟨A31, c31, rfl, _, _, hb31⟩
       have E2 := E1.on hb31
       clear E1 hb31 z0
       have z0 := E2.zbox.c0
       go_wp2_with fail
       refine (HCz.out _ E2.zrow).mono ?_
       rintro e w32 ⟨rfl, hb32⟩
       have hb := (E2.on hb32).bel
       clear E2 hb32 z0
       go_wp2
       go_ret
       exact ⟨rfl, hb⟩
      ·have hpg : (0 : Int) < (np : Int) := by omega
       have c0 := K2.box.c0
       go_wp2_with fail
       refine (HA0.out _ K2.bel).mono ?_
       rintro e w10 ⟨xa, ⟨xa0, xa1⟩, rfl, rfl⟩
       obtain ⟨xn, rfl⟩ : ∃ xn : Nat, xa = (xn : Int) := ⟨xa.toNat, by omega⟩
       have hil : xn % np < np := Nat.mod_lt _ (by omega)
       have hiP : xn % np < P.length := by rw [HNp.out]; exact hil
       obtain ⟨bp, offp, hpA, hpC⟩ := K2.p.at
       obtain ⟨rfl, _⟩ := hpA (by omega)
       obtain ⟨d0, d1, d2⟩ := hpC (xn % np) hiP
       have hmd := List.getElem_mem hiP
       generalize P[xn % np] = d at d0 d1 d2 hmd
       have hsf := HShr.out d hmd
       have HS1 := Lib.hid (fun W q => HSh.out W q d hmd)
       have HW1 := Lib.hid (fun W q => HCw.out W q d)
       unfold ShareF at hsf
       generalize sh d = s at hsf HS1
       generalize cw d = k at hsf HW1
       obtain ⟨tp, bt⟩ := s
       obtain ⟨dx, dy, db⟩ := d
       simp only at d0 d1 d2 hsf HS1 HW1
       obtain ⟨f1, f2, f3, f4, f5, f6⟩ := hsf
       have hmul : 0 ≤ tp * (m : Int) ∧ tp * (m : Int) ≤ 90000 := by
        have := Int.mul_le_mul (show tp ≤ 300 by omega) (show (m : Int) ≤ 300 by omega) (by omega) (by omega)
        exact ⟨Int.mul_nonneg (by omega) (by omega), by omega⟩
       generalize hu : tp * (m : Int) = u at hmul f6
       have u1 : IntKind.i64.wrap (tp * (m : Int)) = u := by rw [hu, IntKind.wrap_i64]; omega
       have u2 : wrap64 (tp * (m : Int)) = u := by rw [hu]; unfold wrap64; omega
       have u3 : IntKind.i64.wrap (bt * k) = u := by rw [← f6, IntKind.wrap_i64]; omega
       have u4 : wrap64 (bt * k) = u := by rw [← f6]; unfold wrap64; omega
       have uu : (u != u) = false := by simp
       have g1 : ¬ tp < 1 := by omega
       have g2 : ¬ bt < tp := by omega
       have hnp0 : ¬ (np : Int) = 0 := by omega
       have hnp1 : ¬ np = 0 := hp0
       have hmd1 := tmod_nat xn np
       have hmd2 : (xn : Int) % (np : Int) = ((xn % np : Nat) : Int) := rfl
       generalize xn % np = ix at hil hiP d0 d1 d2 hmd1 hmd2
       have hilI : (ix : Int) < (np : Int) := by omega
       clear f1 f2 f3 f4 f5 f6 hmul hu hiP hpA hpC hmd HShr HSh HCw hp0
       have K3 := K2.on (below_alloc1 w10 (.cells #[.int .i64 dx, .int .i64 dy, .bool db] 41))
       have Z3 := At3.new 41 w10 dx dy db
       go_upto_region 22 with fail
       generalize w10.alloc (.cells #[.int .i64 dx, .int .i64 dy, .bool db] 41) = W11 at K3 Z3 ⊢
       generalize w10.heap.size = pd at Z3 ⊢
       clear d0 d1 d2 c0 K2
       have c0 := K3.box.c0
       have d0 := Z3.c0
       have d1 := Z3.c1
       have d2 := Z3.c2
       go_wp2_with fail
       refine (HS1.out _ K3.row).mono ?_
       rintro e w12 ⟨rfl, hb12⟩
       have K4 := K3.on hb12
       have Z4 := Z3.on hb12
       clear K3 Z3 c0 d0 d1 d2 hb12 HS1
       have c0 := K4.box.c0
       have d0 := Z4.c0
       have d1 := Z4.c1
       have d2 := Z4.c2
       go_wp2_with fail
       refine (HW1.out _ K4.row).mono ?_
       rintro e w13 ⟨rfl, hb13⟩
       have K5 := K4.on hb13
       clear K4 Z4 c0 d0 d1 d2 hb13 HW1
       have c0 := K5.box.c0
       have z0 := K5.zbox.c0
       clear c0
       go_wp2_with fail
       refine (HTz.out _ K5.zrow).mono ?_
       rintro e w30 ⟨rfl, hb30⟩
       have E1 := K5.on hb30
       clear K5 hb30 z0
       have z0 := E1.zbox.c0
       go_wp2_with fail
       refine (HFz.out _ E1.zrow).mono ?_
       rintro e w31 ⟨A31, c31, rfl, _, _, hb31⟩
       have E2 := E1.on hb31
       clear E1 hb31 z0
       have z0 := E2.zbox.c0
       go_wp2_with fail
       refine (HCz.out _ E2.zrow).mono ?_
       rintro e w32 ⟨rfl, hb32⟩
       have hb := (E2.on hb32).bel
       clear E2 hb32 z0
       go_wp2
       go_ret
       exact ⟨rfl, hb⟩
end Go.Proofs.Ytjfagpmklifjlaa.Frd
