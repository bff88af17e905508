/- DrH, HtP in one text. -/
import Derived.Test.YtieophdbhnpncaaGreatMh28
import Derived.Test.YtieophdbhnpncaaGreatMh30
import Derived.Test.YtieophdbhnpncaaGreatMh20
import Derived.Test.YtieophdbhnpncaaGreatMh26
import Derived.Test.YtieophdbhnpncaaGreatMh24

namespace Go.Proofs.YtieophdbhnpncaaGreat.Tile
set_option linter.unusedVariables false
set_option maxRecDepth 100000
set_option linter.unusedSimpArgs false
open Go.RowKit Go.Proofs.YtieophdbhnpncaaGreat.Base Go.Proofs.YtieophdbhnpncaaGreat.Pure Go.Proofs.YtieophdbhnpncaaGreat.Cell Go.Proofs.YtieophdbhnpncaaGreat.Reg Go.Proofs.YtieophdbhnpncaaGreat.Draw Go.Proofs.YtieophdbhnpncaaGreat.Dms Go.Proofs.YtieophdbhnpncaaGreat.Dss Go.Proofs.YtieophdbhnpncaaGreat.LisU Go.Joins
open Go.Proofs.YtieophdbhnpncaaGreat.Cnt hiding own_cell
open Go.Proofs.YtieophdbhnpncaaGreat.Flo (simB sIsSimple pcsN holN touchB)

theorem sq_rows : rectR 4 4 = [15, 15, 15, 15] := by decide +kernel
theorem sq_ok : okR [15, 15, 15, 15] := by decide +kernel
theorem sq_touch : touchB [15, 15, 15, 15] = false := by decide +kernel
theorem sq_pieces : pcsN [15, 15, 15, 15] = 1 := by decide +kernel
theorem sq_holes : holN [15, 15, 15, 15] = 0 := by decide +kernel
theorem sq_44 : simB (rectR 4 4) = true ∧ 1 ≤ tilesR (rectR 4 4) ∧ tilesR (rectR 4 4) ≤ 120 := by
 have h := rect_tiles (a := 4) (b := 4) (by omega) (by omega)
 have e : W (gq 4 4) 64 0 0 = 36 := by decide +kernel
 rw [e] at h
 have h2 : tilesR (rectR 4 4) = 36 := by
  show tilesR (rectR ((4 : Nat) : Int) ((4 : Nat) : Int)) = 36
  rw [h]; unfold wrap64; omega
 refine ⟨?_, by omega, by omega⟩
 rw [sq_rows]
 exact decide_eq_true ⟨sq_ok, sq_pieces, sq_holes, sq_touch⟩
theorem sim_ok {ys : List Int} (h : simB ys = true) : okR ys := (of_decide_eq_true (show decide (okR ys ∧ pcsN ys = 1 ∧ holN ys = 0 ∧ touchB ys = false) = true from h)).1
def DrewS (w : World) (B g : Nat) (A : Option Addr) (len cap : Nat) (e : Ending) (w' : World) : Prop :=
 ∃ (ys : List Int) (A2 : Option Addr) (n c2 : Nat), Hid (simB ys = true ∧ 1 ≤ tilesR ys ∧ tilesR ys ≤ 120) ∧ Hid (ys.length = n) ∧ e = .returned (.agg #[.slice A2 n c2]) ∧ w'.ownsRow w.heap.size 3 1 (.slice A2 n c2) n (ints ys) ∧ w.grownBy w' (some g) ∧ Cur w' B g A len cap
section
variable {w W W' : World} {B g : Nat} {A : Option Addr} {len cap : Nat}
theorem sim_end {A2 : Option Addr} {n c2 base : Nat} {ys : List Int} (h : Dt w B g A len cap W) (hb : w.heap.size < base) (ho : W.ownsRow base 3 1 (.slice A2 n c2) n (ints ys)) (hok : Hid (simB ys = true ∧ 1 ≤ tilesR ys ∧ tilesR ys ≤ 120)) (hl : Hid (ys.length = n)) :
  (W.setCell ⟨w.heap.size, 0, none⟩ (.slice A2 n c2)).cell? ⟨w.heap.size, 0, none⟩ = some (.slice A2 n c2) ∧ DrewS w B g A len cap (.returned (.agg #[.slice A2 n c2])) (W.setCell ⟨w.heap.size, 0, none⟩ (.slice A2 n c2)) := by
 refine ⟨World.cell?_setCell_same (w := W) _ _ h.cell.1, ys, A2, n, c2, hok, hl, rfl, ?_, ?_, Cur.setCell h.1.1 (p := ⟨w.heap.size, 0, none⟩) (by have := h.1.1.1; have := h.1.2; show B ≤ w.heap.size; omega) (by have := h.1.2; show g ≠ w.heap.size; omega) _⟩
 ·exact own_base (ownsRow_setCell_below ho (by show w.heap.size < base; omega) _) (by omega)
 ·have b := h.2.1
  exact ⟨b.os, b.tape, b.output, by have := b.size; simpa [World.setCell] using this, fun i hi hne => (Below.heap_setCell W _ _ _ (by show i ≠ w.heap.size; omega)).trans (b.block i hi hne)⟩
end
theorem sim_in {ys : List Int} (ho : simB ys = true) (h : 1 ≤ wrap64 (tiles (gR ys) : Nat) ∧ wrap64 (tiles (gR ys) : Nat) ≤ 120) : simB ys = true ∧ 1 ≤ tilesR ys ∧ tilesR ys ≤ 120 := ⟨ho, by rw [tilesR_ok (sim_ok ho)]; exact h⟩
set_option maxRecDepth 100000 in
set_option maxHeartbeats 2000000 in
theorem simRegion (w : World) (B g : Nat) (A : Option Addr) (len cap : Nat) (h0 : Cur w B g A len cap) :
  Calls Tryz.prog 53 #[.pointer (some ⟨g, 0, none⟩)] w (DrewS w B g A len cap) := by
 have hgw := h0.lt
 have T0 := Lib.hid (show Dt w B g A len cap (w.alloc (.cells #[.slice none 0 0] 26)) from
  ⟨⟨h0.alloc _, hgw.2⟩, World.grownBy_alloc w _ _, by simp, heap_alloc_new w _⟩)
 have HD := Lib.hid (fun W n (hc : Cur W B g A len cap) => below W B g A len cap n hc)
 have HRg := Lib.hid (fun W (hc : Cur W B g A len cap) => Draw.region W B g A len cap hc)
 clear h0 hgw
 go_enter Tryz.func53, Tryz.ntmps53
 go_wp2_with fail
 go_loopw [3] (fun kv wr => ∃ k : Nat, k ≤ 8 ∧ kv = .int .i64 (k : Int) ∧ Dt w B g A len cap wr) (fun kv _ => 8 - (intOf kv).toNat)
 case atStart => exact ⟨0, by omega, rfl, T0.out⟩
 case round =>
  clear T0
  obtain ⟨k, hk, rfl, T1⟩ := hrel
  by_cases hlt : k < 8
  ·go_wp2_with fail
   refine (HRg.out _ T1.1.1).mono ?_
   rintro e w2 ⟨ys, A2, n, c2, ho, hl, rfl, hown, hg, _, hc⟩
   have T2 := T1.on hc hg
   have hz1 := T1.2.2.1
   clear T1 hc hg
   go_upto_region 5 with fail
   have hba := below_alloc1 w2 (.cells #[.slice A2 n c2] 26)
   have hbl := heap_alloc_new w2 (.cells #[.slice A2 n c2] 26)
   have T3 := T2.later hba
   have own3 := own_below hown hba (Nat.le_refl _)
   generalize w2.alloc (.cells #[.slice A2 n c2] 26) = W3 at hbl T3 own3 ⊢
   generalize w2.heap.size = p at hbl ⊢
   have c3 := (cellAt hbl 0).1.trans (show _ = some (Value.slice A2 n c2) from rfl)
   clear hba hown T2
   go_wp2_with fail
   refine (sIsSimple W3 A2 n c2 W3.heap.size ys hl.out (by have := ho.out.1; have := hl.out; omega) (rowB_own own3) (Nat.le_refl _)).mono ?_
   rintro e w4 ⟨rfl, hb4⟩
   have T3 := T3.later hb4
   have own3 := own_below own3 hb4 (Nat.le_refl _)
   have hbl := (hb4.block p (Array.getElem?_eq_some_iff.1 hbl).1).trans hbl
   clear c3 hb4
   have c3 := (cellAt hbl 0).1.trans (show _ = some (Value.slice A2 n c2) from rfl)
   cases hsim : simB ys with
   | false =>
    have HT4 := Lib.hid T3
    clear own3 T3 ho hl hbl hsim
    go_wp2
    go_roundw
    case rel => exact ⟨k + 1, by omega, by go_num, HT4.out⟩
    case measure => (simp [intOf] <;> omega)
   | true =>
    have hok := sim_ok hsim
    have HSi := Lib.hid hsim
    clear hsim
    go_wp2_with fail
    refine (sCount w4 A2 n c2 w4.heap.size ys hl.out hok (rowB_own own3) (Nat.le_refl _)).mono ?_
    rintro e w5 ⟨rfl, hb4⟩
    have T4 := T3.later hb4
    have own4 := own_below own3 hb4 (Nat.le_refl _)
    have hbl4 := (hb4.block p (Array.getElem?_eq_some_iff.1 hbl).1).trans hbl
    have c4 := (cellAt hbl4 0).1.trans (show _ = some (Value.slice A2 n c2) from rfl)
    clear c3 hbl T3 own3 hb4 hbl4 hok
    have HTi := Lib.hid (fun h => sim_in (ys := ys) HSi.out h)
    generalize wrap64 (tiles (gR ys) : Nat) = t at HTi ⊢
    go_wp2_with fail
    refine (l01In t 1 120 w5).mono ?_
    rintro e w6 ⟨rfl, rfl⟩
    by_cases hin : 1 ≤ t ∧ t ≤ 120
    ·rw [inB_of hin]
     have HEnd := Lib.hid (sim_end T4 (by omega) own4 (Lib.hid (HTi.out hin)) hl)
     obtain ⟨cr, fr⟩ := T4.cell
     have hres := HEnd.out.1
     clear own4 T4 hin HTi ho hl HSi
     go_wp2
     exact bodyPost_ret (v := .agg #[.slice A2 n c2]) (by simp [results, Tryz.results53, go_sem, hres]) rfl HEnd.out.2
    ·rw [inB_not hin]
     have HT4 := Lib.hid T4
     clear own4 T4 hin HTi ho hl c4 HSi
     go_wp2
     go_roundw
     case rel => exact ⟨k + 1, by omega, by go_num, HT4.out⟩
     case measure => (simp [intOf] <;> omega)
  ·go_wp2_with fail
   refine (sRectangle wr 4 4).mono ?_
   rintro e w4 ⟨A2, c2, rfl, hown, hb4⟩
   have hz3 := T1.2.2.1
   have T4 := T1.later hb4
   have HOk := Lib.hid sq_44
   generalize rectR 4 4 = ys at hown HOk ⊢
   have HEnd := Lib.hid (sim_end T4 (by omega) hown HOk (Lib.hid rfl))
   obtain ⟨cr, fr⟩ := T4.cell
   have hres := HEnd.out.1
   clear T4 T1 hown hb4 hz3 HOk
   generalize ys.length = n at HEnd hres ⊢
   go_wp2
   exact bodyPost_ret (v := .agg #[.slice A2 n c2]) (by simp [results, Tryz.results53, go_sem, hres]) rfl HEnd.out.2
structure SimTwo (ys : List Int) (n : Nat) (La Lb : List Dm) (h : Nat) : Prop where
 sim : simB ys = true
 one : 1 ≤ tilesR ys
 few : tilesR ys ≤ 120
 len : ys.length = n
 a : La ∈ listR ys
 b : Lb ∈ listR ys
 la : La.length = h
 lb : Lb.length = h
 h32 : h ≤ 32
def DrewY (w : World) (B g : Nat) (A : Option Addr) (len cap : Nat) (e : Ending) (w' : World) : Prop :=
 ∃ (ys : List Int) (A2 : Option Addr) (n c2 h : Nat) (La Lb : List Dm) (Aa : Option Addr) (ca : Nat) (Ab : Option Addr) (cb : Nat), Hid (SimTwo ys n La Lb h) ∧ e = .returned (.tuple #[.agg #[.slice A2 n c2], .slice Aa h ca, .slice Ab h cb]) ∧ w'.ownsRow w.heap.size 3 1 (.slice A2 n c2) n (ints ys) ∧ w'.ownsRow w.heap.size 67 3 (.slice Aa h ca) h (rowM La) ∧ w'.ownsRow w.heap.size 67 3 (.slice Ab h cb) h (rowM Lb) ∧ w.grownBy w' (some g)
theorem sim_any {ys : List Int} (h : simB ys = true ∧ 1 ≤ tilesR ys ∧ tilesR ys ≤ 120) : 0 < (listR ys).length ∧ (listR ys).length ≤ 120 := by
 have hc := allR_count ys
 have e : listR ys = allR ys := by unfold listR; rw [if_pos (by omega)]
 rw [e]; omega
set_option maxHeartbeats 4000000 in
theorem twoS (w : World) (B g : Nat) (A : Option Addr) (len cap : Nat) (h0 : Cur w B g A len cap) :
  Calls Tryz.prog 27 #[.pointer (some ⟨g, 0, none⟩)] w (DrewY w B g A len cap) := by
 have hgw := h0.lt
 have HC0 := Lib.hid (h0.alloc (.cells #[.slice none 0 0] 26))
 have HG0 := Lib.hid (World.grownBy_alloc w (.cells #[.slice none 0 0] 26) (some g))
 have HR0 := Lib.hid (heap_alloc_new w (.cells #[.slice none 0 0] 26))
 have hz0 : (w.alloc (.cells #[.slice none 0 0] 26)).heap.size = w.heap.size + 1 := by simp
 clear h0
 go_enter Tryz.func27, Tryz.ntmps27
 go_wp2_with fail
 generalize w.alloc (.cells #[.slice none 0 0] 26) = W0 at HC0 HG0 HR0 hz0 ⊢
 refine (simRegion W0 B g A len cap HC0.out).mono ?_
 rintro e w1 ⟨ys, A2, n, c2, hok, hl, rfl, hown, hg1, hc1⟩
 have hs1 := hg1.size
 have HG1 := Lib.hid (grown_trans HG0.out hg1)
 have HR1 := Lib.hid ((hg1.block w.heap.size (by omega) (fun q => by injection q; omega)).trans HR0.out)
 have HO1 := Lib.hid hown
 have HCu1 := Lib.hid hc1
 have hfew := sim_any hok.out
 have hn : n ≤ 8 := by have := (sim_ok hok.out.1).1; have := hl.out; omega
 clear HC0 HG0 HR0 hown hg1 hc1
 go_upto_region 2 with fail
 have k1 := heap_alloc_new w1 (.cells #[.slice A2 n c2] 26)
 have hb2 := below_alloc1 w1 (.cells #[.slice A2 n c2] 26)
 generalize w1.alloc (.cells #[.slice A2 n c2] 26) = W2 at k1 hb2 ⊢
 have hs2 := hb2.size
 have hlt2 : w1.heap.size < W2.heap.size := (Array.getElem?_eq_some_iff.1 k1).1
 have hbase : g < W0.heap.size := by omega
 have HO2 := Lib.hid (own_below HO1.out hb2 (Nat.le_refl _))
 have c0 : W2.cell? ⟨w1.heap.size, 0, none⟩ = some (.slice A2 n c2) := (cell_of_row _ _ 0 _ _ _ k1).trans rfl
 have HLs := Lib.hid (sListTilings W2 A2 n c2 W2.heap.size ys hl.out (by omega) (rowB_own HO2.out) (Nat.le_refl _))
 have HTw := Lib.hid (show ∀ La Lb, La ∈ listR ys → Lb ∈ listR ys → SimTwo ys n La Lb (halfR ys) from fun La Lb h1 h2 => ⟨hok.out.1, hok.out.2.1, hok.out.2.2, hl.out, h1, h2, listR_half La h1, listR_half Lb h2, halfR_le ys⟩)
 obtain ⟨LL, hLL⟩ : ∃ LL, listR ys = LL := ⟨_, rfl⟩
 obtain ⟨hh, hhh⟩ : ∃ hh, halfR ys = hh := ⟨_, rfl⟩
 rw [hLL] at HLs HTw hfew
 rw [hhh] at HLs HTw
 clear hLL hhh
 go_wp2_with fail
 refine HLs.out.mono ?_
 rintro e w3 ⟨A4, c4, rfl, ⟨S, hS, hI⟩, hb3⟩
 obtain ⟨t1, t2⟩ := hfew
 have hs3 := hb3.size
 have k3 := (hb3.block _ hlt2).trans k1
 have HG3 := Lib.hid (grown_trans HG1.out (grown_below (hb2.trans (hb3.mono hs2)) (some g)))
 have HCu3 := Lib.hid (HCu1.out.later (grown_below (hb2.trans (hb3.mono hs2)) none) (by simp) (fun k hk => by cases hk))
 have HR3 := Lib.hid (((hb2.trans (hb3.mono hs2)).block w.heap.size (by omega)).trans HR1.out)
 have HO3 := Lib.hid (own_below HO2.out hb3 (Nat.le_refl _))
 have hSl := hI.1
 obtain ⟨go, cg, hv, hgo, hglt⟩ := hS.1.form (by omega)
 injection hv with hA4
 subst hA4
 obtain ⟨m, hm⟩ : ∃ m, m = LL.length := ⟨_, rfl⟩
 rw [← hm] at hS t1 t2 ⊢
 have HRow := Lib.hid hS.1
 have HI := Lib.hid hI
 have HM := Lib.hid hm
 have hne1 : w1.heap.size ≠ g := by omega
 have hgo2 : W2.heap.size ≤ go := by first | exact hgo | exact hgo.1 | omega
 have HBe := Lib.hid (fun W (hc : Cur W B g A len cap) => Draw.below W B g A len cap ((m : Nat) : Int) hc)
 clear HO1 HO2 HLs HG1 HR1 HCu1 hS hI hb2 hb3 k1 hm c0
 go_wp2_with fail
 refine (HBe.out _ HCu3.out).mono ?_
 rintro e w4 ⟨x, hx, rfl, hc4, hg4⟩
 have hx2 := hx.2 (by omega)
 obtain ⟨i, rfl⟩ : ∃ i : Nat, x = (i : Int) := ⟨x.toNat, by omega⟩
 have hs4 := hg4.size
 have k4 := (hg4.block w1.heap.size (by omega) (fun q => by injection q; omega)).trans k3
 have hlen := HM.out
 have him : i < m := by omega
 have himI : (i : Int) < (m : Int) := by omega
 obtain ⟨s, hs⟩ : ∃ s, S[i]? = some s := ⟨_, List.getElem?_eq_getElem (by omega)⟩
 obtain ⟨La, hLa⟩ : ∃ La, LL[i]? = some La := ⟨_, List.getElem?_eq_getElem (by omega)⟩
 have HRow4 := own_kept HRow.out hg4 (by omega)
 have HHs := Lib.hid hs
 have HHa := Lib.hid hLa
 have e1 := HRow4.cells (g := go) rfl i _ (outs_at hs)
 rw [Base.add_plain] at e1
 have HR4 := Lib.hid ((hg4.block w.heap.size (by omega) (fun q => by injection q; omega)).trans HR3.out)
 have HG4 := Lib.hid (grown_trans HG3.out hg4)
 have HCu4 := Lib.hid hc4
 have HO4 := Lib.hid (own_kept HO3.out hg4 (by omega))
 have HRa := Lib.hid (own_kept (HI.out.2.1 i s La hs hLa).1 hg4 (by omega))
 have HRow4 := Lib.hid HRow4
 have Hk4 := Lib.hid k4
 have hg34 := Lib.hid hg4
 clear hx hx2 hc4 hg4 k3 k4 HG3 HCu3 HR3 HO3 HRow hs hLa hlen
 obtain ⟨sa, sc⟩ := s
 simp only at e1 HRa
 go_upto_region 4 with fail
 clear e1
 have c4 : w4.cell? ⟨w1.heap.size, 0, none⟩ = some (.slice A2 n c2) := (cell_of_row _ _ 0 _ _ _ Hk4.out).trans rfl
 refine wp_region_noPanic ?_
 refine wp_region_held_drew (S := (fun w' => w'.cell? ⟨w1.heap.size, 0, none⟩ = some (.slice A2 n c2))) (by kernel_rfl) c4 (fun hHeld => ?_)
 refine wpAnyH_take (i := 0) (v := ?_) rfl (by kernel_rfl) (by kernel_rfl) (by kernel_rfl) (fun _ _ _ h => h) (Or.inl ⟨by rfl, ?_⟩) (by assumption) ?_
 rotate_left
 ·(intro w' hS; (try dsimp only at hS); go_simp; try with_reducible rfl)
 try simp only [Act.put, List.getElem_toArray, List.getElem_cons_succ, List.getElem_cons_zero, List.setIfInBounds_toArray, List.set_cons_zero, List.set_cons_succ]
 refine wpAnyH_take (i := 1) (v := ?_) rfl (by kernel_rfl) (by kernel_rfl) (by kernel_rfl) (fun _ _ _ h => h) (Or.inl ⟨by rfl, ?_⟩) (by assumption) ?_
 rotate_left
 ·(intro w' hS; (try dsimp only at hS); go_simp; try with_reducible rfl)
 try simp only [Act.put, List.getElem_toArray, List.getElem_cons_succ, List.getElem_cons_zero, List.setIfInBounds_toArray, List.set_cons_zero, List.set_cons_succ]
 refine wpAnyH_take (i := 2) (v := ?_) rfl (by kernel_rfl) (by kernel_rfl) (by kernel_rfl) (fun _ _ _ h => h) (Or.inl ⟨by rfl, ?_⟩) (by assumption) ?_
 rotate_left
 ·(intro w' hS; (try dsimp only at hS); go_simp; try with_reducible rfl)
 try simp only [Act.put, List.getElem_toArray, List.getElem_cons_succ, List.getElem_cons_zero, List.setIfInBounds_toArray, List.set_cons_zero, List.set_cons_succ]
 refine wpAnyH_take (i := 3) (v := ?_) rfl (by kernel_rfl) (by kernel_rfl) (by kernel_rfl) (fun _ _ _ h => h) (Or.inl ⟨by rfl, ?_⟩) (by assumption) ?_
 rotate_left
 ·(intro w' hS; (try dsimp only at hS); go_simp; try with_reducible rfl)
 try simp only [Act.put, List.getElem_toArray, List.getElem_cons_succ, List.getElem_cons_zero, List.setIfInBounds_toArray, List.set_cons_zero, List.set_cons_succ]
 refine wpAnyH_take (i := 4) (v := ?_) rfl (by kernel_rfl) (by kernel_rfl) (by kernel_rfl) (fun _ _ _ h => h) (Or.inl ⟨by rfl, ?_⟩) (by assumption) ?_
 rotate_left
 ·(intro w' hS; (try dsimp only at hS); go_simp; try with_reducible rfl)
 try simp only [Act.put, List.getElem_toArray, List.getElem_cons_succ, List.getElem_cons_zero, List.setIfInBounds_toArray, List.set_cons_zero, List.set_cons_succ]
 refine wpAnyH_take (i := 5) (v := ?_) rfl (by kernel_rfl) (by kernel_rfl) (by kernel_rfl) (fun _ _ _ h => h) (Or.inl ⟨by rfl, ?_⟩) (by assumption) ?_
 rotate_left
 ·(intro w' hS; (try dsimp only at hS); go_simp; try with_reducible rfl)
 try simp only [Act.put, List.getElem_toArray, List.getElem_cons_succ, List.getElem_cons_zero, List.setIfInBounds_toArray, List.set_cons_zero, List.set_cons_succ]
 refine wpAnyH_ready (rs := [6]) (by kernel_rfl) (by simp) ?_
 refine AllReadyH.cons rfl (fun K hK => ?_) AllReadyH.nil
 go_simp
 refine (HBe.out w4.drew HCu4.out).mono ?_
 rintro e w5 ⟨x, hx, rfl, hc5, hg5⟩
 have hg5 : w4.grownBy w5 (some g) := ⟨hg5.os, hg5.tape, hg5.output, hg5.size, hg5.block⟩
 have hx2 := hx.2 (by omega)
 obtain ⟨j, rfl⟩ : ∃ j : Nat, x = (j : Int) := ⟨x.toNat, by omega⟩
 have hs5 := hg5.size
 have k5 := (hg5.block w1.heap.size (by omega) (fun q => by injection q; omega)).trans Hk4.out
 have C5 : w5.cell? ⟨w1.heap.size, 0, none⟩ = some (.slice A2 n c2) := (cell_of_row _ _ 0 _ _ _ k5).trans rfl
 have hlen := HM.out
 have hjm : j < m := by omega
 have hjI : (j : Int) < (m : Int) := by omega
 obtain ⟨s, hs⟩ : ∃ s, S[j]? = some s := ⟨_, List.getElem?_eq_getElem (by omega)⟩
 obtain ⟨Lb, hLb⟩ : ∃ Lb, LL[j]? = some Lb := ⟨_, List.getElem?_eq_getElem (by omega)⟩
 have HRow5 := own_kept HRow4.out hg5 (by omega)
 have e1 := HRow5.cells (g := go) rfl j _ (outs_at hs)
 rw [Base.add_plain] at e1
 have HR5 := (hg5.block w.heap.size (by omega) (fun q => by injection q; omega)).trans HR4.out
 obtain ⟨f1, f2⟩ := cellAt HR5 0
 have f1 : w5.cell? ⟨w.heap.size, 0, none⟩ = some (.slice none 0 0) := f1.trans rfl
 have hrb := own_kept (HI.out.2.1 j s Lb hs hLb).1 hg34.out (by omega)
 have hTw := HTw.out La Lb (List.mem_of_getElem? HHa.out) (List.mem_of_getElem? hLb)
 obtain ⟨sb, sd⟩ := s
 simp only at e1 hrb
 have P1 := Lib.hid (show (w5.setCell ⟨w.heap.size, 0, none⟩ (.slice A2 n c2)).ownsRow w.heap.size 3 1 (.slice A2 n c2) n (ints ys) from own_base (ownsRow_setCell_below (own_kept HO4.out hg5 (by omega)) (by show w.heap.size < W0.heap.size; omega) _) (by omega))
 have P2 := Lib.hid (show (w5.setCell ⟨w.heap.size, 0, none⟩ (.slice A2 n c2)).ownsRow w.heap.size 67 3 (.slice sa hh sc) hh (rowM La) from own_base (ownsRow_setCell_below (own_kept HRa.out hg5 (by omega)) (by show w.heap.size < W2.heap.size; omega) _) (by omega))
 have P4 := Lib.hid (show (w5.setCell ⟨w.heap.size, 0, none⟩ (.slice A2 n c2)).ownsRow w.heap.size 67 3 (.slice sb hh sd) hh (rowM Lb) from own_base (ownsRow_setCell_below (own_kept hrb hg5 (by omega)) (by show w.heap.size < W2.heap.size; omega) _) (by omega))
 have bg := grown_trans HG4.out hg5
 have P3 := Lib.hid (show w.grownBy (w5.setCell ⟨w.heap.size, 0, none⟩ (.slice A2 n c2)) (some g) from ⟨bg.os, bg.tape, bg.output, by have := bg.size; simpa [World.setCell] using this, fun i hi hne => (Below.heap_setCell w5 _ _ _ (by show i ≠ w.heap.size; omega)).trans (bg.block i hi hne)⟩)
 have HPo := Lib.hid (show DrewY w B g A len cap (.returned (.tuple #[.agg #[.slice A2 n c2], .slice sa hh sc, .slice sb hh sd])) (w5.setCell ⟨w.heap.size, 0, none⟩ (.slice A2 n c2)) from ⟨ys, A2, n, c2, hh, La, Lb, sa, sc, sb, sd, Lib.hid hTw, rfl, P1.out, P2.out, P4.out, P3.out⟩)
 have hres := World.cell?_setCell_same (w := w5) ⟨w.heap.size, 0, none⟩ (.slice A2 n c2) (u := .slice none 0 0) f1
 have C6 : (w5.setCell ⟨w.heap.size, 0, none⟩ (.slice A2 n c2)).cell? ⟨w1.heap.size, 0, none⟩ = some (.slice A2 n c2) := by rw [World.cell?_of_block (w := w5) (a := ⟨w1.heap.size, 0, none⟩) (Below.heap_setCell w5 ⟨w.heap.size, 0, none⟩ _ w1.heap.size (by show w1.heap.size ≠ w.heap.size; omega))]; exact C5
 have e2 : (w5.setCell ⟨w.heap.size, 0, none⟩ (.slice A2 n c2)).cell? ⟨go, j, none⟩ = some (.slice sb hh sd) := by rw [World.cell?_of_block (w := w5) (a := ⟨go, j, none⟩) (Below.heap_setCell w5 ⟨w.heap.size, 0, none⟩ _ go (by show go ≠ w.heap.size; omega))]; exact e1
 clear P1 P2 P3 P4 bg hx hx2 hc5 hg5 k5 HRow5 HR5 hrb hTw hs hLb hlen
 go_wp2_with fail
 refine hK.out _ _ C5 (fun hHeld => ?_)
 clear hK K
 try simp only [Act.put, List.getElem_toArray, List.getElem_cons_succ, List.getElem_cons_zero, List.setIfInBounds_toArray, List.set_cons_zero, List.set_cons_succ]
 refine wpAnyH_take (i := 7) (v := ?_) rfl (by kernel_rfl) (by kernel_rfl) (by kernel_rfl) (fun _ _ _ h => h) (Or.inl ⟨by rfl, ?_⟩) (by assumption) ?_
 rotate_left
 ·(intro w' hS; (try dsimp only at hS); go_simp; try with_reducible rfl)
 try simp only [Act.put, List.getElem_toArray, List.getElem_cons_succ, List.getElem_cons_zero, List.setIfInBounds_toArray, List.set_cons_zero, List.set_cons_succ]
 refine wpAnyH_ready (rs := [8, 9]) (by kernel_rfl) (by simp) ?_
 refine AllReadyH.cons rfl (fun K hK => ?_) (AllReadyH.cons rfl (fun K hK => ?_) AllReadyH.nil)
 ·go_simp
  refine hK.out _ _ C5 (fun hHeld => ?_)
  clear hK K
  try simp only [Act.put, List.getElem_toArray, List.getElem_cons_succ, List.getElem_cons_zero, List.setIfInBounds_toArray, List.set_cons_zero, List.set_cons_succ]
  refine wpAnyH_ready (rs := [9]) (by kernel_rfl) (by simp) ?_
  refine AllReadyH.cons rfl (fun K hK => ?_) AllReadyH.nil
  go_simp
  refine hK.out _ _ C6 (fun hHeld => ?_)
  clear hK K
  try simp only [Act.put, List.getElem_toArray, List.getElem_cons_succ, List.getElem_cons_zero, List.setIfInBounds_toArray, List.set_cons_zero, List.set_cons_succ]
  refine wpAnyH_take (i := 10) (v := ?_) rfl (by kernel_rfl) (by kernel_rfl) (by kernel_rfl) (fun _ _ _ h => h) (Or.inl ⟨by rfl, ?_⟩) (by assumption) ?_
  rotate_left
  ·(intro w' hS; (try dsimp only at hS); go_simp; try with_reducible rfl)
  try simp only [Act.put, List.getElem_toArray, List.getElem_cons_succ, List.getElem_cons_zero, List.setIfInBounds_toArray, List.set_cons_zero, List.set_cons_succ]
  refine wpAnyH_take (i := 11) (v := ?_) rfl (by kernel_rfl) (by kernel_rfl) (by kernel_rfl) (fun _ _ _ h => h) (Or.inl ⟨by rfl, ?_⟩) (by assumption) ?_
  rotate_left
  ·(intro w' hS; (try dsimp only at hS); go_simp; try with_reducible rfl)
  try simp only [Act.put, List.getElem_toArray, List.getElem_cons_succ, List.getElem_cons_zero, List.setIfInBounds_toArray, List.set_cons_zero, List.set_cons_succ]
  refine wpAnyH_done (by kernel_rfl) ?_ _
  refine NoPanic.normal ?_
  clear hHeld
  go_wp2
  exact bodyPost_ret (v := .tuple #[.agg #[.slice A2 n c2], .slice sa hh sc, .slice sb hh sd]) (by simp [results, Tryz.results27, go_sem, hres]) rfl HPo.out
 ·go_simp
  refine hK.out _ _ C6 (fun hHeld => ?_)
  clear hK K
  try simp only [Act.put, List.getElem_toArray, List.getElem_cons_succ, List.getElem_cons_zero, List.setIfInBounds_toArray, List.set_cons_zero, List.set_cons_succ]
  refine wpAnyH_take (i := 10) (v := ?_) rfl (by kernel_rfl) (by kernel_rfl) (by kernel_rfl) (fun _ _ _ h => h) (Or.inl ⟨by rfl, ?_⟩) (by assumption) ?_
  rotate_left
  ·(intro w' hS; (try dsimp only at hS); go_simp; try with_reducible rfl)
  try simp only [Act.put, List.getElem_toArray, List.getElem_cons_succ, List.getElem_cons_zero, List.setIfInBounds_toArray, List.set_cons_zero, List.set_cons_succ]
  refine wpAnyH_ready (rs := [8]) (by kernel_rfl) (by simp) ?_
  refine AllReadyH.cons rfl (fun K hK => ?_) AllReadyH.nil
  go_simp
  refine hK.out _ _ C6 (fun hHeld => ?_)
  clear hK K
  try simp only [Act.put, List.getElem_toArray, List.getElem_cons_succ, List.getElem_cons_zero, List.setIfInBounds_toArray, List.set_cons_zero, List.set_cons_succ]
  refine wpAnyH_take (i := 11) (v := ?_) rfl (by kernel_rfl) (by kernel_rfl) (by kernel_rfl) (fun _ _ _ h => h) (Or.inl ⟨by rfl, ?_⟩) (by assumption) ?_
  rotate_left
  ·(intro w' hS; (try dsimp only at hS); go_simp; try with_reducible rfl)
  try simp only [Act.put, List.getElem_toArray, List.getElem_cons_succ, List.getElem_cons_zero, List.setIfInBounds_toArray, List.set_cons_zero, List.set_cons_succ]
  refine wpAnyH_done (by kernel_rfl) ?_ _
  refine NoPanic.normal ?_
  clear hHeld
  go_wp2
  exact bodyPost_ret (v := .tuple #[.agg #[.slice A2 n c2], .slice sa hh sc, .slice sb hh sd]) (by simp [results, Tryz.results27, go_sem, hres]) rfl HPo.out
def SimPost (w : World) (e : Ending) (w' : World) : Prop :=
 ∃ (ys : List Int) (A2 : Option Addr) (n c2 h : Nat) (La Lb : List Dm) (Aa : Option Addr) (ca : Nat) (Ab : Option Addr) (cb : Nat), Hid (SimTwo ys n La Lb h) ∧ e = .returned (.tuple #[.agg #[.slice A2 n c2], .slice Aa h ca, .slice Ab h cb]) ∧ w'.ownsRow w.heap.size 3 1 (.slice A2 n c2) n (ints ys) ∧ w'.ownsRow w.heap.size 67 3 (.slice Aa h ca) h (rowM La) ∧ w'.ownsRow w.heap.size 67 3 (.slice Ab h cb) h (rowM Lb) ∧ Below w.heap.size w w'
set_option maxHeartbeats 1000000 in
theorem drawHts (w : World) (A : Option Addr) (len cap : Nat) (h0 : Coded w w.heap.size A len) :
  Calls Tryz.prog 6 #[.slice A len cap] w (SimPost w) := by
 have hb0 := below_alloc1 w (.cells #[.slice none 0 0] 26)
 have HC := Lib.hid (show Coded (w.alloc (.cells #[.slice none 0 0] 26)) (w.alloc (.cells #[.slice none 0 0] 26)).heap.size A len from ⟨h0.1, (h0.2.below hb0).mono hb0.size⟩)
 have HR := Lib.hid (heap_alloc_new w (.cells #[.slice none 0 0] 26))
 have HZ := Lib.hid (show (w.alloc (.cells #[.slice none 0 0] 26)).heap.size = w.heap.size + 1 by simp)
 have HB := Lib.hid hb0
 clear h0 hb0
 go_enter Tryz.func6, Tryz.ntmps6
 go_wp2_with fail
 refine (new _ A len cap HC.out).mono ?_
 rintro e w1 ⟨g, rfl, hc1, hb1⟩
 have hg0 := hc1.1
 rw [HZ.out] at hg0
 have HCur := Lib.hid hc1
 have HB1 := Lib.hid (HB.out.trans (hb1.mono HB.out.size))
 have HR1 := Lib.hid ((hb1.block w.heap.size (by rw [HZ.out]; omega)).trans HR.out)
 have hz1 : w.heap.size + 1 ≤ w1.heap.size := by have := hb1.size; rw [HZ.out] at this; exact this
 clear hc1 hb1 HC HB HR HZ
 go_wp2_with fail
 refine (twoS w1 _ g A len cap HCur.out).mono ?_
 rintro e w2 ⟨ys, A2, n, c2, h, La, Lb, Aa, ca, Ab, cb, hok, rfl, hown, howna, hownb, hg⟩
 have hz := hg.size
 have HR2 := Lib.hid ((hg.block w.heap.size (by omega) (fun q => by injection q; omega)).trans HR1.out)
 have HB2 := Lib.hid (HB1.out.grown hg (by omega) (fun k hk => by injection hk with hk; omega))
 have HO := Lib.hid hown
 have HOa := Lib.hid howna
 have HOb := Lib.hid hownb
 clear hown howna hownb hg HR1 HB1 HCur
 go_upto_region 2 with fail
 have k1 := heap_alloc_new w2 (.cells #[.slice A2 n c2] 26)
 have hb3 := below_alloc1 w2 (.cells #[.slice A2 n c2] 26)
 generalize w2.alloc (.cells #[.slice A2 n c2] 26) = W3 at k1 hb3 ⊢
 have HO := Lib.hid (own_below HO.out hb3 (Nat.le_refl _))
 have HOa := Lib.hid (own_below HOa.out hb3 (Nat.le_refl _))
 have HOb := Lib.hid (own_below HOb.out hb3 (Nat.le_refl _))
 have HR3 := (hb3.block w.heap.size (by omega)).trans HR2.out
 have HB3 := Lib.hid (HB2.out.trans (hb3.mono (by omega)))
 obtain ⟨c0, f0⟩ := cellAt HR3 0
 have c0 : W3.cell? ⟨w.heap.size, 0, none⟩ = some (.slice none 0 0) := c0.trans rfl
 have d0 : W3.cell? ⟨w2.heap.size, 0, none⟩ = some (.slice A2 n c2) := (cell_of_row _ _ 0 _ _ _ k1).trans rfl
 have hres := World.cell?_setCell_same (w := W3) ⟨w.heap.size, 0, none⟩ (.slice A2 n c2) (u := .slice none 0 0) c0
 have P1 := Lib.hid (show (W3.setCell ⟨w.heap.size, 0, none⟩ (.slice A2 n c2)).ownsRow w.heap.size 3 1 (.slice A2 n c2) n (ints ys) from own_base (ownsRow_setCell_below HO.out (by show w.heap.size < w1.heap.size; omega) _) (by omega))
 have P2 := Lib.hid (show (W3.setCell ⟨w.heap.size, 0, none⟩ (.slice A2 n c2)).ownsRow w.heap.size 67 3 (.slice Aa h ca) h (rowM La) from own_base (ownsRow_setCell_below HOa.out (by show w.heap.size < w1.heap.size; omega) _) (by omega))
 have P3 := Lib.hid (show (W3.setCell ⟨w.heap.size, 0, none⟩ (.slice A2 n c2)).ownsRow w.heap.size 67 3 (.slice Ab h cb) h (rowM Lb) from own_base (ownsRow_setCell_below HOb.out (by show w.heap.size < w1.heap.size; omega) _) (by omega))
 clear k1 hb3 HR2 HR3 HB2 HO HOa HOb
 go_wp2
 exact bodyPost_ret (v := .tuple #[.agg #[.slice A2 n c2], .slice Aa h ca, .slice Ab h cb]) (by simp [results, Tryz.results6, go_sem, hres]) rfl ⟨ys, A2, n, c2, h, La, Lb, Aa, ca, Ab, cb, hok, rfl, P1.out, P2.out, P3.out, HB3.out.setCell (Nat.le_refl _) _⟩
end Go.Proofs.YtieophdbhnpncaaGreat.Tile

namespace Go.Proofs.YtieophdbhnpncaaGreat.Hgt
set_option linter.unusedVariables false
set_option linter.unusedSimpArgs false
open Go.RowKit Go.Proofs.YtieophdbhnpncaaGreat.Dms Go.Proofs.YtieophdbhnpncaaGreat.Til Go.Proofs.YtieophdbhnpncaaGreat.Flp Go.Joins
open Go.Proofs.YtieophdbhnpncaaGreat.Tile (SimTwo sim_ok)
open Go.Proofs.YtieophdbhnpncaaGreat.Flo (simB)

theorem simt_til {ys : List Int} {n h : Nat} {La Lb : List Dm} (t : SimTwo ys n La Lb h) : tilB ys La = true := by
 have ho := sim_ok t.sim
 have h2 := t.few
 exact ((Tile.tiling_any ⟨ho, t.one, by omega⟩).2.2.2 La t.a).2.1
theorem hgt_row {xs : List Int} {L : List Dm} {h : List Int} (r : hgtR xs L h) (hs : simB xs = true) (ht : tilB xs L = true) : Row9 xs L h := by
 rcases r with ⟨_, r⟩ | ⟨q, _⟩
 ·exact r
 ·exact absurd ⟨hs, ht⟩ q
def OneOff (h g : List Int) : Prop :=
 ∃ (k : Nat) (s : Int), k < 81 ∧ (s = 4 ∨ s = -4) ∧ sumH g 81 = sumH h 81 + s ∧ (-6480 ≤ sumH h 81 ∧ sumH h 81 ≤ 6480) ∧
  ∀ i, i < 81 → ∃ a b : Int, h[i]? = some a ∧ g[i]? = some b ∧ (a ≠ b ↔ i = k)
theorem one_off {xs : List Int} {L : List Dm} {h g : List Int} {x y : Int} (r : Row9 xs L h) (hc : canB L x y = true) (r' : Row9 xs (flipL L x y) g) : OneOff h g := by
 obtain ⟨h6, b, hb⟩ := turn_of (xs := xs) hc
 have hp := til_part r.til
 obtain ⟨_, e⟩ := flip_turn hp h6 hb
 rw [e] at r'
 obtain ⟨k, u, s, hk, hs, bu, hu, hg⟩ := flip_row r r' h6 hb
 have l1 := r.len
 have l2 := r'.len
 have e1 := sumH_I (hs := h) (by omega) r.bd 81 (by omega)
 have e2 := sumH_I (hs := g) (by omega) r'.bd 81 (by omega)
 rw [List.take_of_length_le (by omega)] at e1 e2
 have e3 := sumI_set hu bu hs
 rw [← hg] at e3
 have bd := sumI_bd r.bd
 refine ⟨k, s, hk, hs, by rw [e1, e2, e3], by rw [e1]; omega, fun i hi => ?_⟩
 have hi1 : i < h.length := by omega
 by_cases q : i = k
 ·subst q
  refine ⟨u, u + s, hu, ?_, ⟨fun _ => rfl, fun _ => by omega⟩⟩
  rw [hg, List.getElem?_set_self hi1]
 ·refine ⟨h[i], h[i], List.getElem?_eq_getElem hi1, ?_, ⟨fun n => absurd rfl n, fun n => absurd n q⟩⟩
  rw [hg, List.getElem?_set_ne (fun n => q n.symm), List.getElem?_eq_getElem hi1]
theorem step_one {x y : Int} (hx : 0 ≤ x ∧ x ≤ 7) (hy : 0 ≤ y ∧ y ≤ 8) :
  stepE (x + 1) y x y = -stepE x y (x + 1) y ∧ stepE y (x + 1) y x = -stepE y x y (x + 1) ∧ (stepE x y (x + 1) y = 1 ∨ stepE x y (x + 1) y = -1) ∧ (stepE y x y (x + 1) = 1 ∨ stepE y x y (x + 1) = -1) := by
 have e1 : stepE x y (x + 1) y = sgnE (x + (y - 1)) := by
  unfold stepE; rw [if_pos (by omega), if_pos (by omega)]
 have e2 : stepE (x + 1) y x y = sgnE (x + y) := by
  unfold stepE; rw [if_pos (by omega), if_neg (by omega), if_pos (by omega)]
 have e3 : stepE y x y (x + 1) = sgnE (y + x) := by
  unfold stepE; rw [if_pos (by omega), if_neg (by omega), if_neg (by omega), if_pos (by omega)]
 have e4 : stepE y (x + 1) y x = sgnE (y - 1 + x) := by
  unfold stepE; rw [if_pos (by omega), if_neg (by omega), if_neg (by omega), if_neg (by omega), if_pos (by omega)]
 rw [e1, e2, e3, e4]
 unfold sgnE
 split <;> split <;> split <;> split <;> omega
end Go.Proofs.YtieophdbhnpncaaGreat.Hgt
