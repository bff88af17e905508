/- DrH, FlpL, WgT in one text. -/
import Derived.Test.YtmajllgfmclcoaaGreatDoorMd39
import Derived.Test.YtmajllgfmclcoaaGreatDoorMd17
import Derived.Test.YtmajllgfmclcoaaGreatDoorMd26
import Derived.Test.YtmajllgfmclcoaaGreatDoorMd05
import Derived.Test.YtmajllgfmclcoaaGreatDoorMd29
import Derived.Test.YtmajllgfmclcoaaGreatDoorMd04
set_option linter.unusedVariables false
set_option maxRecDepth 100000
set_option linter.unusedSimpArgs false
namespace Go.Proofs.YtmajllgfmclcoaaGreatDoor.Tile
open Go.RowKit Base Go.Proofs.YtmajllgfmclcoaaGreatDoor.Pure Go.Proofs.YtmajllgfmclcoaaGreatDoor.Cell Reg Draw Dms Dss LisU Go.Joins
open Cnt hiding own_cell
open Flo (simB sIsSimple pcsN holN touchB)
theorem sq_rows : rectR 4 4 = [15, 15, 15, 15] := by decide +kernel
theorem sq_ok : okR [15, 15, 15, 15] := by decide +kernel
theorem sq_touch : touchB [15, 15, 15, 15] = false := by decide +kernel
theorem sq_pieces : pcsN [15, 15, 15, 15] = 1 := by decide +kernel
theorem sq_holes : holN [15, 15, 15, 15] = 0 := by decide +kernel
theorem sq_44 : simB (rectR 4 4) = true ∧ 1 ≤ tilesR (rectR 4 4) ∧ tilesR (rectR 4 4) ≤ 120 := by
 have h := rect_tiles (a := 4) (b := 4) (by omega) (by omega)
 have e : W (gq 4 4) 64 0 0 = 36 := by decide +kernel
 rw [e] at h
 have h2 : tilesR (rectR 4 4) = 36 := by
  show tilesR (rectR ((4 : Nat) : Int) ((4 : Nat) : Int)) = 36
  rw [h]; unfold wrap64; omega
 refine ⟨?_, by omega, by omega⟩
 rw [sq_rows]
 exact decide_eq_true ⟨sq_ok, sq_pieces, sq_holes, sq_touch⟩
theorem sim_ok {ys : List Int} (h : simB ys = true) : okR ys := (of_decide_eq_true (show decide (okR ys ∧ pcsN ys = 1 ∧ holN ys = 0 ∧ touchB ys = false) = true from h)).1
def DrewS (w : World) (B g : Nat) (A : Option Addr) (len cap : Nat) (e : Ending) (w' : World) : Prop :=
 ∃ (ys : List Int) (A2 : Option Addr) (n c2 : Nat), Hid (simB ys = true ∧ 1 ≤ tilesR ys ∧ tilesR ys ≤ 120) ∧ Hid (ys.length = n) ∧ e = .returned (.agg #[.slice A2 n c2]) ∧ w'.ownsRow w.heap.size 3 1 (.slice A2 n c2) n (ints ys) ∧ w.grownBy w' (some g) ∧ Cur w' B g A len cap
section
variable {w W W' : World} {B g : Nat} {A : Option Addr} {len cap : Nat}
theorem sim_end {A2 : Option Addr} {n c2 base : Nat} {ys : List Int} (h : Dt w B g A len cap W) (hb : w.heap.size < base) (ho : W.ownsRow base 3 1 (.slice A2 n c2) n (ints ys)) (hok : Hid (simB ys = true ∧ 1 ≤ tilesR ys ∧ tilesR ys ≤ 120)) (hl : Hid (ys.length = n)) :
  (W.setCell ⟨w.heap.size, 0, none⟩ (.slice A2 n c2)).cell? ⟨w.heap.size, 0, none⟩ = some (.slice A2 n c2) ∧ DrewS w B g A len cap (.returned (.agg #[.slice A2 n c2])) (W.setCell ⟨w.heap.size, 0, none⟩ (.slice A2 n c2)) := by
 refine ⟨World.cell?_setCell_same (w := W) _ _ h.cell.1, ys, A2, n, c2, hok, hl, rfl, ?_, ?_, Cur.setCell h.1.1 (p := ⟨w.heap.size, 0, none⟩) (by have := h.1.1.1; have := h.1.2; show B ≤ w.heap.size; omega) (by have := h.1.2; show g ≠ w.heap.size; omega) _⟩
 ·exact own_base (ownsRow_setCell_below ho (by show w.heap.size < base; omega) _) (by omega)
 ·have b := h.2.1
  exact ⟨b.os, b.tape, b.output, by have := b.size; simpa [World.setCell] using this, fun i hi hne => (Below.heap_setCell W _ _ _ (by show i ≠ w.heap.size; omega)).trans (b.block i hi hne)⟩
end
theorem sim_in {ys : List Int} (ho : simB ys = true) (h : 1 ≤ wrap64 (tiles (gR ys) : Nat) ∧ wrap64 (tiles (gR ys) : Nat) ≤ 120) : simB ys = true ∧ 1 ≤ tilesR ys ∧ tilesR ys ≤ 120 := ⟨ho, by rw [tilesR_ok (sim_ok ho)]; exact h⟩
set_option maxRecDepth 100000 in
set_option maxHeartbeats 2000000 in
theorem simRegion (w : World) (B g : Nat) (A : Option Addr) (len cap : Nat) (h0 : Cur w B g A len cap) :
  Calls Tryz.prog 48 #[.pointer (some ⟨g, 0, none⟩)] w (DrewS w B g A len cap) := by
 have hgw := h0.lt
 have T0 := Lh (show Dt w B g A len cap (w.alloc (.cells #[.slice none 0 0] 26)) from
  ⟨⟨h0.alloc _, hgw.2⟩, World.grownBy_alloc w _ _, by simp, heap_alloc_new w _⟩)
 have HD := Lh (fun W n (hc : Cur W B g A len cap) => below W B g A len cap n hc)
 have HRg := Lh (fun W (hc : Cur W B g A len cap) => Draw.region W B g A len cap hc)
 clear h0 hgw
 go_enter Tryz.func48, Tryz.ntmps48
 go_wp2_with fail
 go_loopw [3] (fun kv wr => ∃ k : Nat, k ≤ 8 ∧ kv = .int .i64 (k : Int) ∧ Dt w B g A len cap wr) (fun kv _ => 8 - (intOf kv).toNat)
 case atStart => exact ⟨0, by omega, rfl, T0.out⟩
 case round =>
  clear T0
  obtain ⟨k, hk, rfl, T1⟩ := hrel
  by_cases hlt : k < 8
  ·go_wp2_with fail
   refine (HRg.out _ T1.1.1).mono ?_
   rintro e w2 ⟨ys, A2, n, c2, ho, hl, rfl, hown, hg, _, hc⟩
   have T2 := T1.on hc hg
   have hz1 := T1.2.2.1
   clear T1 hc hg
   go_upto_region 5 with fail
   have hba := below_alloc1 w2 (.cells #[.slice A2 n c2] 26)
   have hbl := heap_alloc_new w2 (.cells #[.slice A2 n c2] 26)
   have T3 := T2.later hba
   have own3 := own_below hown hba NR
   generalize w2.alloc (.cells #[.slice A2 n c2] 26) = W3 at hbl T3 own3 ⊢
   generalize w2.heap.size = p at hbl ⊢
   have c3 := (cellAt hbl 0).1.trans (show _ = some (Value.slice A2 n c2) from rfl)
   clear hba hown T2
   go_wp2_with fail
   refine (sIsSimple W3 A2 n c2 W3.heap.size ys hl.out (by have := ho.out.1; have := hl.out; omega) (rowB_own own3) NR).mono ?_
   rintro e w4 ⟨rfl, hb4⟩
   have T3 := T3.later hb4
   have own3 := own_below own3 hb4 NR
   have hbl := (hb4.block p (Array.getElem?_eq_some_iff.1 hbl).1).trans hbl
   clear c3 hb4
   have c3 := (cellAt hbl 0).1.trans (show _ = some (Value.slice A2 n c2) from rfl)
   cases hsim : simB ys with
   | false =>
    have HT4 := Lh T3
    clear own3 T3 ho hl hbl hsim
    go_wp2
    go_roundw
    case rel => exact ⟨k + 1, by omega, by go_num, HT4.out⟩
    case measure => (simp [intOf] <;> omega)
   | true =>
    have hok := sim_ok hsim
    have HSi := Lh hsim
    clear hsim
    go_wp2_with fail
    refine (sCount w4 A2 n c2 w4.heap.size ys hl.out hok (rowB_own own3) NR).mono ?_
    rintro e w5 ⟨rfl, hb4⟩
    have T4 := T3.later hb4
    have own4 := own_below own3 hb4 NR
    have hbl4 := (hb4.block p (Array.getElem?_eq_some_iff.1 hbl).1).trans hbl
    have c4 := (cellAt hbl4 0).1.trans (show _ = some (Value.slice A2 n c2) from rfl)
    clear c3 hbl T3 own3 hb4 hbl4 hok
    have HTi := Lh (fun h => sim_in (ys := ys) HSi.out h)
    generalize wrap64 (tiles (gR ys) : Nat) = t at HTi ⊢
    go_wp2_with fail
    refine (l01In t 1 120 w5).mono ?_
    rintro e w6 ⟨rfl, rfl⟩
    by_cases hin : 1 ≤ t ∧ t ≤ 120
    ·rw [inB_of hin]
     have HEnd := Lh (sim_end T4 (by omega) own4 (Lh (HTi.out hin)) hl)
     obtain ⟨cr, fr⟩ := T4.cell
     have hres := HEnd.out.1
     clear own4 T4 hin HTi ho hl HSi
     go_wp2
     exact bodyPost_ret (v := .agg #[.slice A2 n c2]) (by simp [results, Tryz.results48, go_sem, hres]) rfl HEnd.out.2
    ·rw [inB_not hin]
     have HT4 := Lh T4
     clear own4 T4 hin HTi ho hl c4 HSi
     go_wp2
     go_roundw
     case rel => exact ⟨k + 1, by omega, by go_num, HT4.out⟩
     case measure => (simp [intOf] <;> omega)
  ·go_wp2_with fail
   refine (sRectangle wr 4 4).mono ?_
   rintro e w4 ⟨A2, c2, rfl, hown, hb4⟩
   have hz3 := T1.2.2.1
   have T4 := T1.later hb4
   have HOk := Lh sq_44
   generalize rectR 4 4 = ys at hown HOk ⊢
   have HEnd := Lh (sim_end T4 (by omega) hown HOk (Lh rfl))
   obtain ⟨cr, fr⟩ := T4.cell
   have hres := HEnd.out.1
   clear T4 T1 hown hb4 hz3 HOk
   generalize ys.length = n at HEnd hres ⊢
   go_wp2
   exact bodyPost_ret (v := .agg #[.slice A2 n c2]) (by simp [results, Tryz.results48, go_sem, hres]) rfl HEnd.out.2
structure SimTwo (ys : List Int) (n : Nat) (La Lb : List Dm) (h : Nat) : Prop where
 sim : simB ys = true
 one : 1 ≤ tilesR ys
 few : tilesR ys ≤ 120
 len : ys.length = n
 a : La ∈ listR ys
 b : Lb ∈ listR ys
 la : La.length = h
 lb : Lb.length = h
 h32 : h ≤ 32
def DrewY (w : World) (B g : Nat) (A : Option Addr) (len cap : Nat) (e : Ending) (w' : World) : Prop :=
 ∃ (ys : List Int) (A2 : Option Addr) (n c2 h : Nat) (La Lb : List Dm) (Aa : Option Addr) (ca : Nat) (Ab : Option Addr) (cb : Nat), Hid (SimTwo ys n La Lb h) ∧ e = .returned (.tuple #[.agg #[.slice A2 n c2], .slice Aa h ca, .slice Ab h cb]) ∧ w'.ownsRow w.heap.size 3 1 (.slice A2 n c2) n (ints ys) ∧ w'.ownsRow w.heap.size 63 3 (.slice Aa h ca) h (rowM La) ∧ w'.ownsRow w.heap.size 63 3 (.slice Ab h cb) h (rowM Lb) ∧ w.grownBy w' (some g)
theorem sim_any {ys : List Int} (h : simB ys = true ∧ 1 ≤ tilesR ys ∧ tilesR ys ≤ 120) : 0 < (listR ys).length ∧ (listR ys).length ≤ 120 := by
 have hc := allR_count ys
 have e : listR ys = allR ys := by unfold listR; rw [if_pos (by omega)]
 rw [e]; omega
set_option maxHeartbeats 4000000 in
theorem twoS (w : World) (B g : Nat) (A : Option Addr) (len cap : Nat) (h0 : Cur w B g A len cap) :
  Calls Tryz.prog 26 #[.pointer (some ⟨g, 0, none⟩)] w (DrewY w B g A len cap) := by
 have hgw := h0.lt
 have HC0 := Lh (h0.alloc (.cells #[.slice none 0 0] 26))
 have HG0 := Lh (World.grownBy_alloc w (.cells #[.slice none 0 0] 26) (some g))
 have HR0 := Lh (heap_alloc_new w (.cells #[.slice none 0 0] 26))
 have hz0 : (w.alloc (.cells #[.slice none 0 0] 26)).heap.size = w.heap.size + 1 := by simp
 clear h0
 go_enter Tryz.func26, Tryz.ntmps26
 go_wp2_with fail
 generalize w.alloc (.cells #[.slice none 0 0] 26) = W0 at HC0 HG0 HR0 hz0 ⊢
 refine (simRegion W0 B g A len cap HC0.out).mono ?_
 rintro e w1 ⟨ys, A2, n, c2, hok, hl, rfl, hown, hg1, hc1⟩
 have hs1 := hg1.size
 have HG1 := Lh (grown_trans HG0.out hg1)
 have HR1 := Lh ((hg1.block w.heap.size (by omega) (fun q => by injection q; omega)).trans HR0.out)
 have HO1 := Lh hown
 have HCu1 := Lh hc1
 have hfew := sim_any hok.out
 have hn : n ≤ 8 := by have := (sim_ok hok.out.1).1; have := hl.out; omega
 clear HC0 HG0 HR0 hown hg1 hc1
 go_upto_region 2 with fail
 have k1 := heap_alloc_new w1 (.cells #[.slice A2 n c2] 26)
 have hb2 := below_alloc1 w1 (.cells #[.slice A2 n c2] 26)
 generalize w1.alloc (.cells #[.slice A2 n c2] 26) = W2 at k1 hb2 ⊢
 have hs2 := hb2.size
 have hlt2 : w1.heap.size < W2.heap.size := (Array.getElem?_eq_some_iff.1 k1).1
 have hbase : g < W0.heap.size := by omega
 have HO2 := Lh (own_below HO1.out hb2 NR)
 have c0 : W2.cell? ⟨w1.heap.size, 0, none⟩ = some (.slice A2 n c2) := (cell_of_row _ _ 0 _ _ _ k1).trans rfl
 have HLs := Lh (sListTilings W2 A2 n c2 W2.heap.size ys hl.out (by omega) (rowB_own HO2.out) NR)
 have HTw := Lh (show ∀ La Lb, La ∈ listR ys → Lb ∈ listR ys → SimTwo ys n La Lb (halfR ys) from fun La Lb h1 h2 => ⟨hok.out.1, hok.out.2.1, hok.out.2.2, hl.out, h1, h2, listR_half La h1, listR_half Lb h2, halfR_le ys⟩)
 obtain ⟨LL, hLL⟩ : ∃ LL, listR ys = LL := ⟨_, rfl⟩
 obtain ⟨hh, hhh⟩ : ∃ hh, halfR ys = hh := ⟨_, rfl⟩
 rw [hLL] at HLs HTw hfew
 rw [hhh] at HLs HTw
 clear hLL hhh
 go_wp2_with fail
 refine HLs.out.mono ?_
 rintro e w3 ⟨A4, c4, rfl, ⟨S, hS, hI⟩, hb3⟩
 obtain ⟨t1, t2⟩ := hfew
 have hs3 := hb3.size
 have k3 := (hb3.block _ hlt2).trans k1
 have HG3 := Lh (grown_trans HG1.out (grown_below (hb2.trans (hb3.mono hs2)) (some g)))
 have HCu3 := Lh (HCu1.out.later (grown_below (hb2.trans (hb3.mono hs2)) none) (by simp) (fun k hk => by cases hk))
 have HR3 := Lh (((hb2.trans (hb3.mono hs2)).block w.heap.size (by omega)).trans HR1.out)
 have HO3 := Lh (own_below HO2.out hb3 NR)
 have hSl := hI.1
 obtain ⟨go, cg, hv, hgo, hglt⟩ := hS.1.form (by omega)
 injection hv with hA4
 subst hA4
 obtain ⟨m, hm⟩ : ∃ m, m = LL.length := ⟨_, rfl⟩
 rw [← hm] at hS t1 t2 ⊢
 have HRow := Lh hS.1
 have HI := Lh hI
 have HM := Lh hm
 have hne1 : w1.heap.size ≠ g := by omega
 have hgo2 : W2.heap.size ≤ go := by first | exact hgo | exact hgo.1 | omega
 have HBe := Lh (fun W (hc : Cur W B g A len cap) => Draw.below W B g A len cap ((m : Nat) : Int) hc)
 clear HO1 HO2 HLs HG1 HR1 HCu1 hS hI hb2 hb3 k1 hm c0
 go_wp2_with fail
 refine (HBe.out _ HCu3.out).mono ?_
 rintro e w4 ⟨x, hx, rfl, hc4, hg4⟩
 have hx2 := hx.2 (by omega)
 obtain ⟨i, rfl⟩ : ∃ i : Nat, x = (i : Int) := ⟨x.toNat, by omega⟩
 have hs4 := hg4.size
 have k4 := (hg4.block w1.heap.size (by omega) (fun q => by injection q; omega)).trans k3
 have hlen := HM.out
 have him : i < m := by omega
 have himI : (i : Int) < (m : Int) := by omega
 obtain ⟨s, hs⟩ : ∃ s, S[i]? = some s := ⟨_, List.getElem?_eq_getElem (by omega)⟩
 obtain ⟨La, hLa⟩ : ∃ La, LL[i]? = some La := ⟨_, List.getElem?_eq_getElem (by omega)⟩
 have HRow4 := own_kept HRow.out hg4 (by omega)
 have HHs := Lh hs
 have HHa := Lh hLa
 have e1 := HRow4.cells (g := go) rfl i _ (outs_at hs)
 rw [Base.add_plain] at e1
 have HR4 := Lh ((hg4.block w.heap.size (by omega) (fun q => by injection q; omega)).trans HR3.out)
 have HG4 := Lh (grown_trans HG3.out hg4)
 have HCu4 := Lh hc4
 have HO4 := Lh (own_kept HO3.out hg4 (by omega))
 have HRa := Lh (own_kept (HI.out.2.1 i s La hs hLa).1 hg4 (by omega))
 have HRow4 := Lh HRow4
 have Hk4 := Lh k4
 have hg34 := Lh hg4
 clear hx hx2 hc4 hg4 k3 k4 HG3 HCu3 HR3 HO3 HRow hs hLa hlen
 obtain ⟨sa, sc⟩ := s
 simp only at e1 HRa
 go_upto_region 4 with fail
 clear e1
 have c4 : w4.cell? ⟨w1.heap.size, 0, none⟩ = some (.slice A2 n c2) := (cell_of_row _ _ 0 _ _ _ Hk4.out).trans rfl
 refine wp_region_noPanic ?_
 refine wp_region_held_drew (S := (fun w' => w'.cell? ⟨w1.heap.size, 0, none⟩ = some (.slice A2 n c2))) (by kernel_rfl) c4 (fun hHeld => ?_)
 refine tk 0 ?_; try simp only [Act.put, zk]
 refine tk 1 ?_; try simp only [Act.put, zk]
 refine tk 2 ?_; try simp only [Act.put, zk]
 refine tk 3 ?_; try simp only [Act.put, zk]
 refine tk 4 ?_; try simp only [Act.put, zk]
 refine tk 5 ?_; try simp only [Act.put, zk]
 refine tr 6 fun K hK => ?_
 go_simp
 refine (HBe.out w4.drew HCu4.out).mono ?_
 rintro e w5 ⟨x, hx, rfl, hc5, hg5⟩
 have hg5 : w4.grownBy w5 (some g) := ⟨hg5.os, hg5.tape, hg5.output, hg5.size, hg5.block⟩
 have hx2 := hx.2 (by omega)
 obtain ⟨j, rfl⟩ : ∃ j : Nat, x = (j : Int) := ⟨x.toNat, by omega⟩
 have hs5 := hg5.size
 have k5 := (hg5.block w1.heap.size (by omega) (fun q => by injection q; omega)).trans Hk4.out
 have C5 : w5.cell? ⟨w1.heap.size, 0, none⟩ = some (.slice A2 n c2) := (cell_of_row _ _ 0 _ _ _ k5).trans rfl
 have hlen := HM.out
 have hjm : j < m := by omega
 have hjI : (j : Int) < (m : Int) := by omega
 obtain ⟨s, hs⟩ : ∃ s, S[j]? = some s := ⟨_, List.getElem?_eq_getElem (by omega)⟩
 obtain ⟨Lb, hLb⟩ : ∃ Lb, LL[j]? = some Lb := ⟨_, List.getElem?_eq_getElem (by omega)⟩
 have HRow5 := own_kept HRow4.out hg5 (by omega)
 have e1 := HRow5.cells (g := go) rfl j _ (outs_at hs)
 rw [Base.add_plain] at e1
 have HR5 := (hg5.block w.heap.size (by omega) (fun q => by injection q; omega)).trans HR4.out
 obtain ⟨f1, f2⟩ := cellAt HR5 0
 have f1 : w5.cell? ⟨w.heap.size, 0, none⟩ = some (.slice none 0 0) := f1.trans rfl
 have hrb := own_kept (HI.out.2.1 j s Lb hs hLb).1 hg34.out (by omega)
 have hTw := HTw.out La Lb (List.mem_of_getElem? HHa.out) (List.mem_of_getElem? hLb)
 obtain ⟨sb, sd⟩ := s
 simp only at e1 hrb
 have P1 := Lh (show (w5.setCell ⟨w.heap.size, 0, none⟩ (.slice A2 n c2)).ownsRow w.heap.size 3 1 (.slice A2 n c2) n (ints ys) from own_base (ownsRow_setCell_below (own_kept HO4.out hg5 (by omega)) (by show w.heap.size < W0.heap.size; omega) _) (by omega))
 have P2 := Lh (show (w5.setCell ⟨w.heap.size, 0, none⟩ (.slice A2 n c2)).ownsRow w.heap.size 63 3 (.slice sa hh sc) hh (rowM La) from own_base (ownsRow_setCell_below (own_kept HRa.out hg5 (by omega)) (by show w.heap.size < W2.heap.size; omega) _) (by omega))
 have P4 := Lh (show (w5.setCell ⟨w.heap.size, 0, none⟩ (.slice A2 n c2)).ownsRow w.heap.size 63 3 (.slice sb hh sd) hh (rowM Lb) from own_base (ownsRow_setCell_below (own_kept hrb hg5 (by omega)) (by show w.heap.size < W2.heap.size; omega) _) (by omega))
 have bg := grown_trans HG4.out hg5
 have P3 := Lh (show w.grownBy (w5.setCell ⟨w.heap.size, 0, none⟩ (.slice A2 n c2)) (some g) from ⟨bg.os, bg.tape, bg.output, by have := bg.size; simpa [World.setCell] using this, fun i hi hne => (Below.heap_setCell w5 _ _ _ (by show i ≠ w.heap.size; omega)).trans (bg.block i hi hne)⟩)
 have HPo := Lh (show DrewY w B g A len cap (.returned (.tuple #[.agg #[.slice A2 n c2], .slice sa hh sc, .slice sb hh sd])) (w5.setCell ⟨w.heap.size, 0, none⟩ (.slice A2 n c2)) from ⟨ys, A2, n, c2, hh, La, Lb, sa, sc, sb, sd, Lh hTw, rfl, P1.out, P2.out, P4.out, P3.out⟩)
 have hres := World.cell?_setCell_same (w := w5) ⟨w.heap.size, 0, none⟩ (.slice A2 n c2) (u := .slice none 0 0) f1
 have C6 : (w5.setCell ⟨w.heap.size, 0, none⟩ (.slice A2 n c2)).cell? ⟨w1.heap.size, 0, none⟩ = some (.slice A2 n c2) := by rw [World.cell?_of_block (w := w5) (a := ⟨w1.heap.size, 0, none⟩) (Below.heap_setCell w5 ⟨w.heap.size, 0, none⟩ _ w1.heap.size (by show w1.heap.size ≠ w.heap.size; omega))]; exact C5
 have e2 : (w5.setCell ⟨w.heap.size, 0, none⟩ (.slice A2 n c2)).cell? ⟨go, j, none⟩ = some (.slice sb hh sd) := by rw [World.cell?_of_block (w := w5) (a := ⟨go, j, none⟩) (Below.heap_setCell w5 ⟨w.heap.size, 0, none⟩ _ go (by show go ≠ w.heap.size; omega))]; exact e1
 clear P1 P2 P3 P4 bg hx hx2 hc5 hg5 k5 HRow5 HR5 hrb hTw hs hLb hlen
 go_wp2_with fail
 refine hK.out _ _ C5 (fun hHeld => ?_)
 clear hK K
 try simp only [Act.put, zk]
 refine tk 7 ?_; try simp only [Act.put, zk]
 refine wpAnyH_ready (rs := [8, 9]) (by kernel_rfl) (by simp) ?_
 refine AllReadyH.cons rfl (fun K hK => ?_) (AllReadyH.cons rfl (fun K hK => ?_) AllReadyH.nil)
 ·go_simp
  refine hK.out _ _ C5 (fun hHeld => ?_)
  clear hK K
  try simp only [Act.put, zk]
  refine tr 9 fun K hK => ?_
  go_simp
  refine hK.out _ _ C6 (fun hHeld => ?_)
  clear hK K
  try simp only [Act.put, zk]
  refine tk 10 ?_; try simp only [Act.put, zk]
  refine tk 11 ?_; try simp only [Act.put, zk]
  refine wpAnyH_done (by kernel_rfl) (NoPanic.normal ?_) _
  clear hHeld
  go_wp2
  exact bodyPost_ret (v := .tuple #[.agg #[.slice A2 n c2], .slice sa hh sc, .slice sb hh sd]) (by simp [results, Tryz.results26, go_sem, hres]) rfl HPo.out
 ·go_simp
  refine hK.out _ _ C6 (fun hHeld => ?_)
  clear hK K
  try simp only [Act.put, zk]
  refine tk 10 ?_; try simp only [Act.put, zk]
  refine tr 8 fun K hK => ?_
  go_simp
  refine hK.out _ _ C6 (fun hHeld => ?_)
  clear hK K
  try simp only [Act.put, zk]
  refine tk 11 ?_; try simp only [Act.put, zk]
  refine wpAnyH_done (by kernel_rfl) (NoPanic.normal ?_) _
  clear hHeld
  go_wp2
  exact bodyPost_ret (v := .tuple #[.agg #[.slice A2 n c2], .slice sa hh sc, .slice sb hh sd]) (by simp [results, Tryz.results26, go_sem, hres]) rfl HPo.out
def SimPost (w : World) (e : Ending) (w' : World) : Prop :=
 ∃ (ys : List Int) (A2 : Option Addr) (n c2 h : Nat) (La Lb : List Dm) (Aa : Option Addr) (ca : Nat) (Ab : Option Addr) (cb : Nat), Hid (SimTwo ys n La Lb h) ∧ e = .returned (.tuple #[.agg #[.slice A2 n c2], .slice Aa h ca, .slice Ab h cb]) ∧ w'.ownsRow w.heap.size 3 1 (.slice A2 n c2) n (ints ys) ∧ w'.ownsRow w.heap.size 63 3 (.slice Aa h ca) h (rowM La) ∧ w'.ownsRow w.heap.size 63 3 (.slice Ab h cb) h (rowM Lb) ∧ Below w.heap.size w w'
set_option maxHeartbeats 1000000 in
theorem drawHts (w : World) (A : Option Addr) (len cap : Nat) (h0 : Coded w w.heap.size A len) :
  Calls Tryz.prog 7 #[.slice A len cap] w (SimPost w) := by
 have hb0 := below_alloc1 w (.cells #[.slice none 0 0] 26)
 have HC := Lh (show Coded (w.alloc (.cells #[.slice none 0 0] 26)) (w.alloc (.cells #[.slice none 0 0] 26)).heap.size A len from ⟨h0.1, (h0.2.below hb0).mono hb0.size⟩)
 have HR := Lh (heap_alloc_new w (.cells #[.slice none 0 0] 26))
 have HZ := Lh (show (w.alloc (.cells #[.slice none 0 0] 26)).heap.size = w.heap.size + 1 by simp)
 have HB := Lh hb0
 clear h0 hb0
 go_enter Tryz.func7, Tryz.ntmps7
 go_wp2_with fail
 refine (new _ A len cap HC.out).mono ?_
 rintro e w1 ⟨g, rfl, hc1, hb1⟩
 have hg0 := hc1.1
 rw [HZ.out] at hg0
 have HCur := Lh hc1
 have HB1 := Lh (HB.out.trans (hb1.mono HB.out.size))
 have HR1 := Lh ((hb1.block w.heap.size (by rw [HZ.out]; omega)).trans HR.out)
 have hz1 : w.heap.size + 1 ≤ w1.heap.size := by have := hb1.size; rw [HZ.out] at this; exact this
 clear hc1 hb1 HC HB HR HZ
 go_wp2_with fail
 refine (twoS w1 _ g A len cap HCur.out).mono ?_
 rintro e w2 ⟨ys, A2, n, c2, h, La, Lb, Aa, ca, Ab, cb, hok, rfl, hown, howna, hownb, hg⟩
 have hz := hg.size
 have HR2 := Lh ((hg.block w.heap.size (by omega) (fun q => by injection q; omega)).trans HR1.out)
 have HB2 := Lh (HB1.out.grown hg (by omega) (fun k hk => by injection hk with hk; omega))
 have HO := Lh hown
 have HOa := Lh howna
 have HOb := Lh hownb
 clear hown howna hownb hg HR1 HB1 HCur
 go_upto_region 2 with fail
 have k1 := heap_alloc_new w2 (.cells #[.slice A2 n c2] 26)
 have hb3 := below_alloc1 w2 (.cells #[.slice A2 n c2] 26)
 generalize w2.alloc (.cells #[.slice A2 n c2] 26) = W3 at k1 hb3 ⊢
 have HO := Lh (own_below HO.out hb3 NR)
 have HOa := Lh (own_below HOa.out hb3 NR)
 have HOb := Lh (own_below HOb.out hb3 NR)
 have HR3 := (hb3.block w.heap.size (by omega)).trans HR2.out
 have HB3 := Lh (HB2.out.trans (hb3.mono (by omega)))
 obtain ⟨c0, f0⟩ := cellAt HR3 0
 have c0 : W3.cell? ⟨w.heap.size, 0, none⟩ = some (.slice none 0 0) := c0.trans rfl
 have d0 : W3.cell? ⟨w2.heap.size, 0, none⟩ = some (.slice A2 n c2) := (cell_of_row _ _ 0 _ _ _ k1).trans rfl
 have hres := World.cell?_setCell_same (w := W3) ⟨w.heap.size, 0, none⟩ (.slice A2 n c2) (u := .slice none 0 0) c0
 have P1 := Lh (show (W3.setCell ⟨w.heap.size, 0, none⟩ (.slice A2 n c2)).ownsRow w.heap.size 3 1 (.slice A2 n c2) n (ints ys) from own_base (ownsRow_setCell_below HO.out (by show w.heap.size < w1.heap.size; omega) _) (by omega))
 have P2 := Lh (show (W3.setCell ⟨w.heap.size, 0, none⟩ (.slice A2 n c2)).ownsRow w.heap.size 63 3 (.slice Aa h ca) h (rowM La) from own_base (ownsRow_setCell_below HOa.out (by show w.heap.size < w1.heap.size; omega) _) (by omega))
 have P3 := Lh (show (W3.setCell ⟨w.heap.size, 0, none⟩ (.slice A2 n c2)).ownsRow w.heap.size 63 3 (.slice Ab h cb) h (rowM Lb) from own_base (ownsRow_setCell_below HOb.out (by show w.heap.size < w1.heap.size; omega) _) (by omega))
 clear k1 hb3 HR2 HR3 HB2 HO HOa HOb
 go_wp2
 exact bodyPost_ret (v := .tuple #[.agg #[.slice A2 n c2], .slice Aa h ca, .slice Ab h cb]) (by simp [results, Tryz.results7, go_sem, hres]) rfl ⟨ys, A2, n, c2, h, La, Lb, Aa, ca, Ab, cb, hok, rfl, P1.out, P2.out, P3.out, HB3.out.setCell NR _⟩
end Go.Proofs.YtmajllgfmclcoaaGreatDoor.Tile
namespace Go.Proofs.YtmajllgfmclcoaaGreatDoor.Flp
open Go.RowKit Dms Til Go.Joins
theorem flips_can {L : List Dm} {c : Int × Int} (h : c ∈ flipsR L) : canB L c.1 c.2 = true := by
 unfold flipsR at h
 obtain ⟨k, hk, rfl⟩ := List.mem_map.1 h
 exact (List.mem_filter.1 hk).2
theorem can_flips {L : List Dm} {x y : Int} (h : canB L x y = true) : (x, y) ∈ flipsR L := by
 have h0 : kindN L x y ≠ 0 := by have := of_decide_eq_true h; omega
 obtain ⟨h6, _⟩ := kind_is h0
 obtain ⟨a0, a1, b0, b1⟩ := in6_iff.1 h6
 unfold flipsR
 have e1 : (((8 * y.toNat + x.toNat) % 8 : Nat) : Int) = x := by omega
 have e2 : (((8 * y.toNat + x.toNat) / 8 : Nat) : Int) = y := by omega
 refine List.mem_map.2 ⟨8 * y.toNat + x.toNat, List.mem_filter.2 ⟨List.mem_range.2 (by omega), ?_⟩, Prod.ext e1 e2⟩
 rw [e1, e2]; exact h
theorem flips_all {xs : List Int} {L : List Dm} {x y : Int} (hL : tilB xs L = true) (hc : canB L x y = true) :
  tilB xs (flipL L x y) = true ∧ canB (flipL L x y) x y = true ∧ flipL (flipL L x y) x y = L ∧ flipL L x y ≠ L ∧ ((downR (flipL L x y) : Int) - (downR L : Int) = 2 ∨ (downR (flipL L x y) : Int) - (downR L : Int) = -2) ∧ flipAllR L [(x, y), (x, y)] = some L := by
 have hp : partB xs L = true := by unfold tilB at hL; rw [Bool.and_eq_true] at hL; exact hL.1
 have h0 : kindN L x y ≠ 0 := by have := of_decide_eq_true hc; omega
 obtain ⟨h6', hb⟩ := kind_is h0
 have h6 := in6_iff.1 h6'
 have e := flip_yes h0
 generalize hbb : decide (kindN L x y = 2) = b at hb e
 have hk := turn_kind hp h6 hb
 have hk2 : kindN (turn L x y b) x y ≠ 0 := by rw [hk]; cases b <;> simp
 have e2 : flipL (turn L x y b) x y = L := by
  rw [flip_yes hk2, hk]
  have := turn_back hp h6 hb
  cases b
  ·exact this
  ·exact this
 have hc2 : canB (turn L x y b) x y = true := decide_eq_true (by omega)
 rw [e]
 refine ⟨turn_til hp h6 hb hL, hc2, e2, turn_ne hp h6 hb, ?_, ?_⟩
 ·have := turn_down hp h6 hb
  cases b
  ·exact .inl this
  ·exact .inr this
 ·have s1 : flipAllR L [(x, y), (x, y)] = if canB L x y then (if canB (flipL L x y) x y then some (flipL (flipL L x y) x y) else none) else none := rfl
  rw [s1, if_pos hc, e, if_pos hc2, e2]
end Go.Proofs.YtmajllgfmclcoaaGreatDoor.Flp
namespace Go.Proofs.YtmajllgfmclcoaaGreatDoor.Wg
open Go.RowKit Go.Proofs.YtmajllgfmclcoaaGreatDoor.Pure Dms Til Flp Go.Joins
open Lis (allT all_til all_order Bfr Bfr.ne)
def nxt (all : List (List Dm)) (X : List Dm) : List Nat := (List.range all.length).filter fun j => decide (all[j]? = some X)
def lnk (all : List (List Dm)) (k : Nat) : List Nat := (flipsR (all.getD k [])).flatMap fun c => nxt all (flipL (all.getD k []) c.1 c.2)
theorem getD_at {all : List (List Dm)} {k : Nat} (hk : k < all.length) : all.getD k [] = all[k] := by simp [List.getD, List.getElem?_eq_getElem hk]
theorem nxt_mem {all : List (List Dm)} {X : List Dm} {j : Nat} : j ∈ nxt all X ↔ all[j]? = some X := by
 unfold nxt
 rw [List.mem_filter, List.mem_range, decide_eq_true_eq]
 exact ⟨fun h => h.2, fun h => ⟨(List.getElem?_eq_some_iff.1 h).1, h⟩⟩
theorem lnk_mem {all : List (List Dm)} {k j : Nat} (hk : k < all.length) : j ∈ lnk all k ↔ ∃ c, c ∈ flipsR all[k] ∧ all[j]? = some (flipL all[k] c.1 c.2) := by
 unfold lnk
 rw [List.mem_flatMap, getD_at hk]
 constructor
 ·rintro ⟨c, hc, h⟩; exact ⟨c, hc, nxt_mem.1 h⟩
 ·rintro ⟨c, hc, h⟩; exact ⟨c, hc, nxt_mem.2 h⟩
theorem flips_nil : flipsR [] = [] := by
 unfold flipsR
 rw [List.map_eq_nil_iff, List.filter_eq_nil_iff]
 intro k _ h
 unfold canB kindN has2 at h
 simp at h
theorem lnk_lt {all : List (List Dm)} {k j : Nat} (h : j ∈ lnk all k) : j < all.length := by
 unfold lnk at h
 obtain ⟨c, _, h⟩ := List.mem_flatMap.1 h
 exact (List.getElem?_eq_some_iff.1 (nxt_mem.1 h)).1
theorem lnk_out {all : List (List Dm)} {k : Nat} (h : all.length ≤ k) : lnk all k = [] := by
 unfold lnk
 rw [show all.getD k [] = [] by simp [List.getD, List.getElem?_eq_none h], flips_nil]; rfl
section
variable {xs : List Int}
theorem allT_nodup (xs : List Int) : (allT xs).Nodup := (all_order xs).imp Bfr.ne
theorem at_til (ho : okR xs) {k : Nat} (hk : k < (allT xs).length) : tilB xs (allT xs)[k] = true := all_til ho _ (List.getElem_mem hk)
theorem til_at (ho : okR xs) {L : List Dm} (h : tilB xs L = true) : ∃ j, ∃ hj : j < (allT xs).length, (allT xs)[j] = L := List.getElem_of_mem (KuL.til_all ho h)
theorem ed_iff (ho : okR xs) {i j : Nat} : Ed (lnk (allT xs)) i j ↔ ∃ (hi : i < (allT xs).length) (hj : j < (allT xs).length) (c : Int × Int), c ∈ flipsR (allT xs)[i] ∧ flipL (allT xs)[i] c.1 c.2 = (allT xs)[j] := by
 unfold Ed
 constructor
 ·intro h
  have hi : i < (allT xs).length := by
   rcases Nat.lt_or_ge i (allT xs).length with q | q
   ·exact q
   ·rw [lnk_out q] at h; cases h
  have hj := lnk_lt h
  obtain ⟨c, hc, e⟩ := (lnk_mem hi).1 h
  rw [List.getElem?_eq_getElem hj] at e
  injection e with e
  exact ⟨hi, hj, c, hc, e.symm⟩
 ·rintro ⟨hi, hj, c, hc, e⟩
  exact (lnk_mem hi).2 ⟨c, hc, by rw [List.getElem?_eq_getElem hj, e]⟩
theorem ed_symm (ho : okR xs) (i j : Nat) (h : Ed (lnk (allT xs)) i j) : Ed (lnk (allT xs)) j i := by
 obtain ⟨hi, hj, c, hc, e⟩ := (ed_iff ho).1 h
 obtain ⟨_, h2, h3, _⟩ := flips_all (at_til ho hi) (flips_can hc)
 rw [e] at h2 h3
 exact (ed_iff ho).2 ⟨hj, hi, c, can_flips h2, h3⟩
theorem way_flips (ho : okR xs) : ∀ (n i j : Nat) (hi : i < (allT xs).length) (hj : j < (allT xs).length), Pth (Ed (lnk (allT xs))) n i j → ∃ w : List (Int × Int), w.length = n ∧ allF (allT xs)[i] w = some (allT xs)[j] := by
 intro n
 induction n with
 | zero => intro i j hi hj h; have := pth_zero h; subst this; exact ⟨[], rfl, rfl⟩
 | succ n ih =>
  intro i j hi hj h
  obtain ⟨a, e, p⟩ := pth_first h
  obtain ⟨_, ha, c, hc, ef⟩ := (ed_iff ho).1 e
  obtain ⟨w, hw, hf⟩ := ih a j ha hj p
  refine ⟨c :: w, by rw [List.length_cons, hw], ?_⟩
  show (if canB (allT xs)[i] c.1 c.2 then allF (flipL (allT xs)[i] c.1 c.2) w else none) = _
  rw [if_pos (flips_can hc), ef]; exact hf
theorem flips_way (ho : okR xs) : ∀ (w : List (Int × Int)) (i j : Nat) (hi : i < (allT xs).length) (hj : j < (allT xs).length), allF (allT xs)[i] w = some (allT xs)[j] → Pth (Ed (lnk (allT xs))) w.length i j := by
 intro w
 induction w with
 | nil =>
  intro i j hi hj h
  have h' : some (allT xs)[i] = some (allT xs)[j] := h
  injection h' with h'
  have := (List.getElem_inj (allT_nodup xs)).1 h'
  subst this; exact .zero i
 | cons c w ih =>
  intro i j hi hj h
  have h' : (if canB (allT xs)[i] c.1 c.2 then allF (flipL (allT xs)[i] c.1 c.2) w else none) = some (allT xs)[j] := h
  by_cases hc : canB (allT xs)[i] c.1 c.2 = true
  ·rw [if_pos hc] at h'
   obtain ⟨a, ha, ea⟩ := til_at ho (flips_all (at_til ho hi) hc).1
   rw [← ea] at h'
   exact pth_front ((ed_iff ho).2 ⟨hi, ha, c, can_flips hc, ea.symm⟩) (ih a j ha hj h')
  ·rw [if_neg hc] at h'; cases h'
end
end Go.Proofs.YtmajllgfmclcoaaGreatDoor.Wg
