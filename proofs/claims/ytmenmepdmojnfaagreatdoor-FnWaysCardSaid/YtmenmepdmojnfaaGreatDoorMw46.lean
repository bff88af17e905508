/- DrX in one text. -/
import Derived.Test.YtmenmepdmojnfaaGreatDoorMw45
import Derived.Test.YtmenmepdmojnfaaGreatDoorMw16

namespace Go.Proofs.YtmenmepdmojnfaaGreatDoor.Tile
set_option linter.unusedVariables false
set_option maxRecDepth 100000
set_option linter.unusedSimpArgs false
open Go.RowKit Go.Proofs.YtmenmepdmojnfaaGreatDoor.Base Go.Proofs.YtmenmepdmojnfaaGreatDoor.Pure Go.Proofs.YtmenmepdmojnfaaGreatDoor.Reg Go.Proofs.YtmenmepdmojnfaaGreatDoor.Draw Go.Proofs.YtmenmepdmojnfaaGreatDoor.Dms Go.Proofs.YtmenmepdmojnfaaGreatDoor.Dss Go.Joins
open Go.Proofs.YtmenmepdmojnfaaGreatDoor.Cnt (tilesR)
open Go.Proofs.YtmenmepdmojnfaaGreatDoor.Lst (listR listR_small listR_half halfR_le allR_count sListTilings)
open Go.Proofs.YtmenmepdmojnfaaGreatDoor.Ext (SSP halfR allR allR_ok)

structure TwoOk (ys : List Int) (n : Nat) (La Lb : List Dm) (h : Nat) : Prop where
 ok : okR ys
 one : 1 ≤ tilesR ys
 few : tilesR ys ≤ 60
 len : ys.length = n
 a : La ∈ listR ys
 b : Lb ∈ listR ys
 la : La.length = h
 lb : Lb.length = h
 h32 : h ≤ 32
def DrewW (w : World) (B g : Nat) (A : Option Addr) (len cap : Nat) (e : Ending) (w' : World) : Prop :=
 ∃ (ys : List Int) (A2 : Option Addr) (n c2 h : Nat) (La Lb : List Dm) (Aa : Option Addr) (ca : Nat) (Ab : Option Addr) (cb : Nat), Hid (TwoOk ys n La Lb h) ∧ e = .returned (.tuple #[.agg #[.slice A2 n c2], .slice Aa h ca, .slice Ab h cb]) ∧ w'.ownsRow w.heap.size 3 1 (.slice A2 n c2) n (ints ys) ∧ w'.ownsRow w.heap.size 73 3 (.slice Aa h ca) h (rowM La) ∧ w'.ownsRow w.heap.size 73 3 (.slice Ab h cb) h (rowM Lb) ∧ w.grownBy w' (some g)
theorem few_any {ys : List Int} (h : okR ys ∧ 1 ≤ tilesR ys ∧ tilesR ys ≤ 60) : 0 < (listR ys).length ∧ (listR ys).length ≤ 60 := by
 have hc := allR_count ys
 have e : listR ys = allR ys := by unfold listR; rw [if_pos (by omega)]
 rw [e]; omega
set_option maxHeartbeats 4000000 in
theorem twoC (w : World) (B g : Nat) (A : Option Addr) (len cap : Nat) (h0 : Cur w B g A len cap) :
  Calls Tryz.prog 38 #[.pointer (some ⟨g, 0, none⟩)] w (DrewW w B g A len cap) := by
 have hgw := h0.lt
 have HC0 := Lib.hid (h0.alloc (.cells #[.slice none 0 0] 26))
 have HG0 := Lib.hid (World.grownBy_alloc w (.cells #[.slice none 0 0] 26) (some g))
 have HR0 := Lib.hid (heap_alloc_new w (.cells #[.slice none 0 0] 26))
 have hz0 : (w.alloc (.cells #[.slice none 0 0] 26)).heap.size = w.heap.size + 1 := by simp
 clear h0
 go_enter Tryz.func38, Tryz.ntmps38
 go_wp2_with fail
 generalize w.alloc (.cells #[.slice none 0 0] 26) = W0 at HC0 HG0 HR0 hz0 ⊢
 refine (fewRegion W0 B g A len cap HC0.out).mono ?_
 rintro e w1 ⟨ys, A2, n, c2, hok, hl, rfl, hown, hg1, hc1⟩
 have hs1 := hg1.size
 have HG1 := Lib.hid (grown_trans HG0.out hg1)
 have HR1 := Lib.hid ((hg1.block w.heap.size (by omega) (fun q => by injection q; omega)).trans HR0.out)
 have HO1 := Lib.hid hown
 have HCu1 := Lib.hid hc1
 have hfew := few_any hok.out
 have hn : n ≤ 8 := by have := hok.out.1.1; have := hl.out; omega
 clear HC0 HG0 HR0 hown hg1 hc1
 go_upto_region 2 with fail
 have k1 := heap_alloc_new w1 (.cells #[.slice A2 n c2] 26)
 have hb2 := below_alloc1 w1 (.cells #[.slice A2 n c2] 26)
 generalize w1.alloc (.cells #[.slice A2 n c2] 26) = W2 at k1 hb2 ⊢
 have hs2 := hb2.size
 have hlt2 : w1.heap.size < W2.heap.size := (Array.getElem?_eq_some_iff.1 k1).1
 have hbase : g < W0.heap.size := by omega
 have HO2 := Lib.hid (own_below HO1.out hb2 (Nat.le_refl _))
 have c0 : W2.cell? ⟨w1.heap.size, 0, none⟩ = some (.slice A2 n c2) := (cell_of_row _ _ 0 _ _ _ k1).trans rfl
 have HLs := Lib.hid (sListTilings W2 A2 n c2 W2.heap.size ys hl.out (by omega) (rowB_own HO2.out) (Nat.le_refl _))
 have HTw := Lib.hid (show ∀ La Lb, La ∈ listR ys → Lb ∈ listR ys → TwoOk ys n La Lb (halfR ys) from fun La Lb h1 h2 => ⟨hok.out.1, hok.out.2.1, hok.out.2.2, hl.out, h1, h2, listR_half La h1, listR_half Lb h2, halfR_le ys⟩)
 obtain ⟨LL, hLL⟩ : ∃ LL, listR ys = LL := ⟨_, rfl⟩
 obtain ⟨hh, hhh⟩ : ∃ hh, halfR ys = hh := ⟨_, rfl⟩
 rw [hLL] at HLs HTw hfew
 rw [hhh] at HLs HTw
 clear hLL hhh
 go_wp2_with fail
 refine HLs.out.mono ?_
 rintro e w3 ⟨A4, c4, rfl, ⟨S, hS, hI⟩, hb3⟩
 obtain ⟨t1, t2⟩ := hfew
 have hs3 := hb3.size
 have k3 := (hb3.block _ hlt2).trans k1
 have HG3 := Lib.hid (grown_trans HG1.out (grown_below (hb2.trans (hb3.mono hs2)) (some g)))
 have HCu3 := Lib.hid (HCu1.out.later (grown_below (hb2.trans (hb3.mono hs2)) none) (by simp) (fun k hk => by cases hk))
 have HR3 := Lib.hid (((hb2.trans (hb3.mono hs2)).block w.heap.size (by omega)).trans HR1.out)
 have HO3 := Lib.hid (own_below HO2.out hb3 (Nat.le_refl _))
 have hSl := hI.1
 obtain ⟨go, cg, hv, hgo, hglt⟩ := hS.1.form (by omega)
 injection hv with hA4
 subst hA4
 obtain ⟨m, hm⟩ : ∃ m, m = LL.length := ⟨_, rfl⟩
 rw [← hm] at hS t1 t2 ⊢
 have HRow := Lib.hid hS.1
 have HI := Lib.hid hI
 have HM := Lib.hid hm
 have hne1 : w1.heap.size ≠ g := by omega
 have hgo2 : W2.heap.size ≤ go := by first | exact hgo | exact hgo.1 | omega
 have HBe := Lib.hid (fun W (hc : Cur W B g A len cap) => Draw.below W B g A len cap ((m : Nat) : Int) hc)
 clear HO1 HO2 HLs HG1 HR1 HCu1 hS hI hb2 hb3 k1 hm c0
 go_wp2_with fail
 refine (HBe.out _ HCu3.out).mono ?_
 rintro e w4 ⟨x, hx, rfl, hc4, hg4⟩
 have hx2 := hx.2 (by omega)
 obtain ⟨i, rfl⟩ : ∃ i : Nat, x = (i : Int) := ⟨x.toNat, by omega⟩
 have hs4 := hg4.size
 have k4 := (hg4.block w1.heap.size (by omega) (fun q => by injection q; omega)).trans k3
 have hlen := HM.out
 have him : i < m := by omega
 have himI : (i : Int) < (m : Int) := by omega
 obtain ⟨s, hs⟩ : ∃ s, S[i]? = some s := ⟨_, List.getElem?_eq_getElem (by omega)⟩
 obtain ⟨La, hLa⟩ : ∃ La, LL[i]? = some La := ⟨_, List.getElem?_eq_getElem (by omega)⟩
 have HRow4 := own_kept HRow.out hg4 (by omega)
 have HHs := Lib.hid hs
 have HHa := Lib.hid hLa
 have e1 := HRow4.cells (g := go) rfl i _ (outs_at hs)
 rw [Base.add_plain] at e1
 have HR4 := Lib.hid ((hg4.block w.heap.size (by omega) (fun q => by injection q; omega)).trans HR3.out)
 have HG4 := Lib.hid (grown_trans HG3.out hg4)
 have HCu4 := Lib.hid hc4
 have HO4 := Lib.hid (own_kept HO3.out hg4 (by omega))
 have HRa := Lib.hid (own_kept (HI.out.2.1 i s La hs hLa).1 hg4 (by omega))
 have HRow4 := Lib.hid HRow4
 have Hk4 := Lib.hid k4
 have hg34 := Lib.hid hg4
 clear hx hx2 hc4 hg4 k3 k4 HG3 HCu3 HR3 HO3 HRow hs hLa hlen
 obtain ⟨sa, sc⟩ := s
 simp only at e1 HRa
 go_upto_region 4 with fail
 clear e1
 have c4 : w4.cell? ⟨w1.heap.size, 0, none⟩ = some (.slice A2 n c2) := (cell_of_row _ _ 0 _ _ _ Hk4.out).trans rfl
 refine wp_region_noPanic ?_
 refine wp_region_held_drew (S := (fun w' => w'.cell? ⟨w1.heap.size, 0, none⟩ = some (.slice A2 n c2))) (by kernel_rfl) c4 (fun hHeld => ?_)
 refine wpAnyH_take (i := 0) (v := ?_) rfl (by kernel_rfl) (by kernel_rfl) (by kernel_rfl) (fun _ _ _ h => h) (Or.inl ⟨by rfl, ?_⟩) (by assumption) ?_
 rotate_left
 ·(intro w' hS; (try dsimp only at hS); go_simp; try with_reducible rfl)
 try simp only [Act.put, List.getElem_toArray, List.getElem_cons_succ, List.getElem_cons_zero, List.setIfInBounds_toArray, List.set_cons_zero, List.set_cons_succ]
 refine wpAnyH_take (i := 1) (v := ?_) rfl (by kernel_rfl) (by kernel_rfl) (by kernel_rfl) (fun _ _ _ h => h) (Or.inl ⟨by rfl, ?_⟩) (by assumption) ?_
 rotate_left
 ·(intro w' hS; (try dsimp only at hS); go_simp; try with_reducible rfl)
 try simp only [Act.put, List.getElem_toArray, List.getElem_cons_succ, List.getElem_cons_zero, List.setIfInBounds_toArray, List.set_cons_zero, List.set_cons_succ]
 refine wpAnyH_take (i := 2) (v := ?_) rfl (by kernel_rfl) (by kernel_rfl) (by kernel_rfl) (fun _ _ _ h => h) (Or.inl ⟨by rfl, ?_⟩) (by assumption) ?_
 rotate_left
 ·(intro w' hS; (try dsimp only at hS); go_simp; try with_reducible rfl)
 try simp only [Act.put, List.getElem_toArray, List.getElem_cons_succ, List.getElem_cons_zero, List.setIfInBounds_toArray, List.set_cons_zero, List.set_cons_succ]
 refine wpAnyH_take (i := 3) (v := ?_) rfl (by kernel_rfl) (by kernel_rfl) (by kernel_rfl) (fun _ _ _ h => h) (Or.inl ⟨by rfl, ?_⟩) (by assumption) ?_
 rotate_left
 ·(intro w' hS; (try dsimp only at hS); go_simp; try with_reducible rfl)
 try simp only [Act.put, List.getElem_toArray, List.getElem_cons_succ, List.getElem_cons_zero, List.setIfInBounds_toArray, List.set_cons_zero, List.set_cons_succ]
 refine wpAnyH_take (i := 4) (v := ?_) rfl (by kernel_rfl) (by kernel_rfl) (by kernel_rfl) (fun _ _ _ h => h) (Or.inl ⟨by rfl, ?_⟩) (by assumption) ?_
 rotate_left
 ·(intro w' hS; (try dsimp only at hS); go_simp; try with_reducible rfl)
 try simp only [Act.put, List.getElem_toArray, List.getElem_cons_succ, List.getElem_cons_zero, List.setIfInBounds_toArray, List.set_cons_zero, List.set_cons_succ]
 refine wpAnyH_take (i := 5) (v := ?_) rfl (by kernel_rfl) (by kernel_rfl) (by kernel_rfl) (fun _ _ _ h => h) (Or.inl ⟨by rfl, ?_⟩) (by assumption) ?_
 rotate_left
 ·(intro w' hS; (try dsimp only at hS); go_simp; try with_reducible rfl)
 try simp only [Act.put, List.getElem_toArray, List.getElem_cons_succ, List.getElem_cons_zero, List.setIfInBounds_toArray, List.set_cons_zero, List.set_cons_succ]
 refine wpAnyH_ready (rs := [6]) (by kernel_rfl) (by simp) ?_
 refine AllReadyH.cons rfl (fun K hK => ?_) AllReadyH.nil
 go_simp
 refine (HBe.out w4.drew HCu4.out).mono ?_
 rintro e w5 ⟨x, hx, rfl, hc5, hg5⟩
 have hg5 : w4.grownBy w5 (some g) := ⟨hg5.os, hg5.tape, hg5.output, hg5.size, hg5.block⟩
 have hx2 := hx.2 (by omega)
 obtain ⟨j, rfl⟩ : ∃ j : Nat, x = (j : Int) := ⟨x.toNat, by omega⟩
 have hs5 := hg5.size
 have k5 := (hg5.block w1.heap.size (by omega) (fun q => by injection q; omega)).trans Hk4.out
 have C5 : w5.cell? ⟨w1.heap.size, 0, none⟩ = some (.slice A2 n c2) := (cell_of_row _ _ 0 _ _ _ k5).trans rfl
 have hlen := HM.out
 have hjm : j < m := by omega
 have hjI : (j : Int) < (m : Int) := by omega
 obtain ⟨s, hs⟩ : ∃ s, S[j]? = some s := ⟨_, List.getElem?_eq_getElem (by omega)⟩
 obtain ⟨Lb, hLb⟩ : ∃ Lb, LL[j]? = some Lb := ⟨_, List.getElem?_eq_getElem (by omega)⟩
 have HRow5 := own_kept HRow4.out hg5 (by omega)
 have e1 := HRow5.cells (g := go) rfl j _ (outs_at hs)
 rw [Base.add_plain] at e1
 have HR5 := (hg5.block w.heap.size (by omega) (fun q => by injection q; omega)).trans HR4.out
 obtain ⟨f1, f2⟩ := cellAt HR5 0
 have f1 : w5.cell? ⟨w.heap.size, 0, none⟩ = some (.slice none 0 0) := f1.trans rfl
 have hrb := own_kept (HI.out.2.1 j s Lb hs hLb).1 hg34.out (by omega)
 have hTw := HTw.out La Lb (List.mem_of_getElem? HHa.out) (List.mem_of_getElem? hLb)
 obtain ⟨sb, sd⟩ := s
 simp only at e1 hrb
 have P1 := Lib.hid (show (w5.setCell ⟨w.heap.size, 0, none⟩ (.slice A2 n c2)).ownsRow w.heap.size 3 1 (.slice A2 n c2) n (ints ys) from own_base (ownsRow_setCell_below (own_kept HO4.out hg5 (by omega)) (by show w.heap.size < W0.heap.size; omega) _) (by omega))
 have P2 := Lib.hid (show (w5.setCell ⟨w.heap.size, 0, none⟩ (.slice A2 n c2)).ownsRow w.heap.size 73 3 (.slice sa hh sc) hh (rowM La) from own_base (ownsRow_setCell_below (own_kept HRa.out hg5 (by omega)) (by show w.heap.size < W2.heap.size; omega) _) (by omega))
 have P4 := Lib.hid (show (w5.setCell ⟨w.heap.size, 0, none⟩ (.slice A2 n c2)).ownsRow w.heap.size 73 3 (.slice sb hh sd) hh (rowM Lb) from own_base (ownsRow_setCell_below (own_kept hrb hg5 (by omega)) (by show w.heap.size < W2.heap.size; omega) _) (by omega))
 have bg := grown_trans HG4.out hg5
 have P3 := Lib.hid (show w.grownBy (w5.setCell ⟨w.heap.size, 0, none⟩ (.slice A2 n c2)) (some g) from ⟨bg.os, bg.tape, bg.output, by have := bg.size; simpa [World.setCell] using this, fun i hi hne => (Below.heap_setCell w5 _ _ _ (by show i ≠ w.heap.size; omega)).trans (bg.block i hi hne)⟩)
 have HPo := Lib.hid (show DrewW w B g A len cap (.returned (.tuple #[.agg #[.slice A2 n c2], .slice sa hh sc, .slice sb hh sd])) (w5.setCell ⟨w.heap.size, 0, none⟩ (.slice A2 n c2)) from ⟨ys, A2, n, c2, hh, La, Lb, sa, sc, sb, sd, Lib.hid hTw, rfl, P1.out, P2.out, P4.out, P3.out⟩)
 have hres := World.cell?_setCell_same (w := w5) ⟨w.heap.size, 0, none⟩ (.slice A2 n c2) (u := .slice none 0 0) f1
 have C6 : (w5.setCell ⟨w.heap.size, 0, none⟩ (.slice A2 n c2)).cell? ⟨w1.heap.size, 0, none⟩ = some (.slice A2 n c2) := by rw [World.cell?_of_block (w := w5) (a := ⟨w1.heap.size, 0, none⟩) (Below.heap_setCell w5 ⟨w.heap.size, 0, none⟩ _ w1.heap.size (by show w1.heap.size ≠ w.heap.size; omega))]; exact C5
 have e2 : (w5.setCell ⟨w.heap.size, 0, none⟩ (.slice A2 n c2)).cell? ⟨go, j, none⟩ = some (.slice sb hh sd) := by rw [World.cell?_of_block (w := w5) (a := ⟨go, j, none⟩) (Below.heap_setCell w5 ⟨w.heap.size, 0, none⟩ _ go (by show go ≠ w.heap.size; omega))]; exact e1
 clear P1 P2 P3 P4 bg hx hx2 hc5 hg5 k5 HRow5 HR5 hrb hTw hs hLb hlen
 go_wp2_with fail
 refine hK.out _ _ C5 (fun hHeld => ?_)
 clear hK K
 try simp only [Act.put, List.getElem_toArray, List.getElem_cons_succ, List.getElem_cons_zero, List.setIfInBounds_toArray, List.set_cons_zero, List.set_cons_succ]
 refine wpAnyH_take (i := 7) (v := ?_) rfl (by kernel_rfl) (by kernel_rfl) (by kernel_rfl) (fun _ _ _ h => h) (Or.inl ⟨by rfl, ?_⟩) (by assumption) ?_
 rotate_left
 ·(intro w' hS; (try dsimp only at hS); go_simp; try with_reducible rfl)
 try simp only [Act.put, List.getElem_toArray, List.getElem_cons_succ, List.getElem_cons_zero, List.setIfInBounds_toArray, List.set_cons_zero, List.set_cons_succ]
 refine wpAnyH_ready (rs := [8, 9]) (by kernel_rfl) (by simp) ?_
 refine AllReadyH.cons rfl (fun K hK => ?_) (AllReadyH.cons rfl (fun K hK => ?_) AllReadyH.nil)
 ·go_simp
  refine hK.out _ _ C5 (fun hHeld => ?_)
  clear hK K
  try simp only [Act.put, List.getElem_toArray, List.getElem_cons_succ, List.getElem_cons_zero, List.setIfInBounds_toArray, List.set_cons_zero, List.set_cons_succ]
  refine wpAnyH_ready (rs := [9]) (by kernel_rfl) (by simp) ?_
  refine AllReadyH.cons rfl (fun K hK => ?_) AllReadyH.nil
  go_simp
  refine hK.out _ _ C6 (fun hHeld => ?_)
  clear hK K
  try simp only [Act.put, List.getElem_toArray, List.getElem_cons_succ, List.getElem_cons_zero, List.setIfInBounds_toArray, List.set_cons_zero, List.set_cons_succ]
  refine wpAnyH_take (i := 10) (v := ?_) rfl (by kernel_rfl) (by kernel_rfl) (by kernel_rfl) (fun _ _ _ h => h) (Or.inl ⟨by rfl, ?_⟩) (by assumption) ?_
  rotate_left
  ·(intro w' hS; (try dsimp only at hS); go_simp; try with_reducible rfl)
  try simp only [Act.put, List.getElem_toArray, List.getElem_cons_succ, List.getElem_cons_zero, List.setIfInBounds_toArray, List.set_cons_zero, List.set_cons_succ]
  refine wpAnyH_take (i := 11) (v := ?_) rfl (by kernel_rfl) (by kernel_rfl) (by kernel_rfl) (fun _ _ _ h => h) (Or.inl ⟨by rfl, ?_⟩) (by assumption) ?_
  rotate_left
  ·(intro w' hS; (try dsimp only at hS); go_simp; try with_reducible rfl)
  try simp only [Act.put, List.getElem_toArray, List.getElem_cons_succ, List.getElem_cons_zero, List.setIfInBounds_toArray, List.set_cons_zero, List.set_cons_succ]
  refine wpAnyH_done (by kernel_rfl) ?_ _
  refine NoPanic.normal ?_
  clear hHeld
  go_wp2
  exact bodyPost_ret (v := .tuple #[.agg #[.slice A2 n c2], .slice sa hh sc, .slice sb hh sd]) (by simp [results, Tryz.results38, go_sem, hres]) rfl HPo.out
 ·go_simp
  refine hK.out _ _ C6 (fun hHeld => ?_)
  clear hK K
  try simp only [Act.put, List.getElem_toArray, List.getElem_cons_succ, List.getElem_cons_zero, List.setIfInBounds_toArray, List.set_cons_zero, List.set_cons_succ]
  refine wpAnyH_take (i := 10) (v := ?_) rfl (by kernel_rfl) (by kernel_rfl) (by kernel_rfl) (fun _ _ _ h => h) (Or.inl ⟨by rfl, ?_⟩) (by assumption) ?_
  rotate_left
  ·(intro w' hS; (try dsimp only at hS); go_simp; try with_reducible rfl)
  try simp only [Act.put, List.getElem_toArray, List.getElem_cons_succ, List.getElem_cons_zero, List.setIfInBounds_toArray, List.set_cons_zero, List.set_cons_succ]
  refine wpAnyH_ready (rs := [8]) (by kernel_rfl) (by simp) ?_
  refine AllReadyH.cons rfl (fun K hK => ?_) AllReadyH.nil
  go_simp
  refine hK.out _ _ C6 (fun hHeld => ?_)
  clear hK K
  try simp only [Act.put, List.getElem_toArray, List.getElem_cons_succ, List.getElem_cons_zero, List.setIfInBounds_toArray, List.set_cons_zero, List.set_cons_succ]
  refine wpAnyH_take (i := 11) (v := ?_) rfl (by kernel_rfl) (by kernel_rfl) (by kernel_rfl) (fun _ _ _ h => h) (Or.inl ⟨by rfl, ?_⟩) (by assumption) ?_
  rotate_left
  ·(intro w' hS; (try dsimp only at hS); go_simp; try with_reducible rfl)
  try simp only [Act.put, List.getElem_toArray, List.getElem_cons_succ, List.getElem_cons_zero, List.setIfInBounds_toArray, List.set_cons_zero, List.set_cons_succ]
  refine wpAnyH_done (by kernel_rfl) ?_ _
  refine NoPanic.normal ?_
  clear hHeld
  go_wp2
  exact bodyPost_ret (v := .tuple #[.agg #[.slice A2 n c2], .slice sa hh sc, .slice sb hh sd]) (by simp [results, Tryz.results38, go_sem, hres]) rfl HPo.out
def TwoPost (w : World) (e : Ending) (w' : World) : Prop :=
 ∃ (ys : List Int) (A2 : Option Addr) (n c2 h : Nat) (La Lb : List Dm) (Aa : Option Addr) (ca : Nat) (Ab : Option Addr) (cb : Nat), Hid (TwoOk ys n La Lb h) ∧ e = .returned (.tuple #[.agg #[.slice A2 n c2], .slice Aa h ca, .slice Ab h cb]) ∧ w'.ownsRow w.heap.size 3 1 (.slice A2 n c2) n (ints ys) ∧ w'.ownsRow w.heap.size 73 3 (.slice Aa h ca) h (rowM La) ∧ w'.ownsRow w.heap.size 73 3 (.slice Ab h cb) h (rowM Lb) ∧ Below w.heap.size w w'
set_option maxHeartbeats 1000000 in
theorem drawTwo (w : World) (A : Option Addr) (len cap : Nat) (h0 : Coded w w.heap.size A len) :
  Calls Tryz.prog 9 #[.slice A len cap] w (TwoPost w) := by
 have hb0 := below_alloc1 w (.cells #[.slice none 0 0] 26)
 have HC := Lib.hid (show Coded (w.alloc (.cells #[.slice none 0 0] 26)) (w.alloc (.cells #[.slice none 0 0] 26)).heap.size A len from ⟨h0.1, (h0.2.below hb0).mono hb0.size⟩)
 have HR := Lib.hid (heap_alloc_new w (.cells #[.slice none 0 0] 26))
 have HZ := Lib.hid (show (w.alloc (.cells #[.slice none 0 0] 26)).heap.size = w.heap.size + 1 by simp)
 have HB := Lib.hid hb0
 clear h0 hb0
 go_enter Tryz.func9, Tryz.ntmps9
 go_wp2_with fail
 refine (new _ A len cap HC.out).mono ?_
 rintro e w1 ⟨g, rfl, hc1, hb1⟩
 have hg0 := hc1.1
 rw [HZ.out] at hg0
 have HCur := Lib.hid hc1
 have HB1 := Lib.hid (HB.out.trans (hb1.mono HB.out.size))
 have HR1 := Lib.hid ((hb1.block w.heap.size (by rw [HZ.out]; omega)).trans HR.out)
 have hz1 : w.heap.size + 1 ≤ w1.heap.size := by have := hb1.size; rw [HZ.out] at this; exact this
 clear hc1 hb1 HC HB HR HZ
 go_wp2_with fail
 refine (twoC w1 _ g A len cap HCur.out).mono ?_
 rintro e w2 ⟨ys, A2, n, c2, h, La, Lb, Aa, ca, Ab, cb, hok, rfl, hown, howna, hownb, hg⟩
 have hz := hg.size
 have HR2 := Lib.hid ((hg.block w.heap.size (by omega) (fun q => by injection q; omega)).trans HR1.out)
 have HB2 := Lib.hid (HB1.out.grown hg (by omega) (fun k hk => by injection hk with hk; omega))
 have HO := Lib.hid hown
 have HOa := Lib.hid howna
 have HOb := Lib.hid hownb
 clear hown howna hownb hg HR1 HB1 HCur
 go_upto_region 2 with fail
 have k1 := heap_alloc_new w2 (.cells #[.slice A2 n c2] 26)
 have hb3 := below_alloc1 w2 (.cells #[.slice A2 n c2] 26)
 generalize w2.alloc (.cells #[.slice A2 n c2] 26) = W3 at k1 hb3 ⊢
 have HO := Lib.hid (own_below HO.out hb3 (Nat.le_refl _))
 have HOa := Lib.hid (own_below HOa.out hb3 (Nat.le_refl _))
 have HOb := Lib.hid (own_below HOb.out hb3 (Nat.le_refl _))
 have HR3 := (hb3.block w.heap.size (by omega)).trans HR2.out
 have HB3 := Lib.hid (HB2.out.trans (hb3.mono (by omega)))
 obtain ⟨c0, f0⟩ := cellAt HR3 0
 have c0 : W3.cell? ⟨w.heap.size, 0, none⟩ = some (.slice none 0 0) := c0.trans rfl
 have d0 : W3.cell? ⟨w2.heap.size, 0, none⟩ = some (.slice A2 n c2) := (cell_of_row _ _ 0 _ _ _ k1).trans rfl
 have hres := World.cell?_setCell_same (w := W3) ⟨w.heap.size, 0, none⟩ (.slice A2 n c2) (u := .slice none 0 0) c0
 have P1 := Lib.hid (show (W3.setCell ⟨w.heap.size, 0, none⟩ (.slice A2 n c2)).ownsRow w.heap.size 3 1 (.slice A2 n c2) n (ints ys) from own_base (ownsRow_setCell_below HO.out (by show w.heap.size < w1.heap.size; omega) _) (by omega))
 have P2 := Lib.hid (show (W3.setCell ⟨w.heap.size, 0, none⟩ (.slice A2 n c2)).ownsRow w.heap.size 73 3 (.slice Aa h ca) h (rowM La) from own_base (ownsRow_setCell_below HOa.out (by show w.heap.size < w1.heap.size; omega) _) (by omega))
 have P3 := Lib.hid (show (W3.setCell ⟨w.heap.size, 0, none⟩ (.slice A2 n c2)).ownsRow w.heap.size 73 3 (.slice Ab h cb) h (rowM Lb) from own_base (ownsRow_setCell_below HOb.out (by show w.heap.size < w1.heap.size; omega) _) (by omega))
 clear k1 hb3 HR2 HR3 HB2 HO HOa HOb
 go_wp2
 exact bodyPost_ret (v := .tuple #[.agg #[.slice A2 n c2], .slice Aa h ca, .slice Ab h cb]) (by simp [results, Tryz.results9, go_sem, hres]) rfl ⟨ys, A2, n, c2, h, La, Lb, Aa, ca, Ab, cb, hok, rfl, P1.out, P2.out, P3.out, HB3.out.setCell (Nat.le_refl _) _⟩
end Go.Proofs.YtmenmepdmojnfaaGreatDoor.Tile
