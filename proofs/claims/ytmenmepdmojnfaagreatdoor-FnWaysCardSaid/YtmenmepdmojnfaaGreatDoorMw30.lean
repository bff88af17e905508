/- Fls, Rep in one text. -/
import Derived.Test.YtmenmepdmojnfaaGreatDoorMw24
import Derived.Test.YtmenmepdmojnfaaGreatDoorMw29
import Derived.Test.YtmenmepdmojnfaaGreatDoorMw26
import Derived.Test.YtmenmepdmojnfaaGreatDoorMw17
import Derived.Test.YtmenmepdmojnfaaGreatDoorSrti
import Derived.Laws.CopyOwn
import Derived.Deep.LoopGhost
import Derived.Deep.RegionHeld3
import Derived.Deep.Cut
import Derived.Lib.Hide
import Derived.Lib.SmallJoins
import Derived.OwnWalk
import Derived.Laws.OwnMore

namespace Go.Proofs.YtmenmepdmojnfaaGreatDoor.Wg
set_option linter.unusedVariables false
set_option linter.unusedSimpArgs false
set_option maxRecDepth 100000
open Go.RowKit Go.Proofs.YtmenmepdmojnfaaGreatDoor.Base Go.Proofs.YtmenmepdmojnfaaGreatDoor.Cell Go.Proofs.YtmenmepdmojnfaaGreatDoor.Cels Go.Proofs.YtmenmepdmojnfaaGreatDoor.Dom Go.Proofs.YtmenmepdmojnfaaGreatDoor.Dms Go.Proofs.YtmenmepdmojnfaaGreatDoor.Dss Go.Proofs.YtmenmepdmojnfaaGreatDoor.Flp Go.Joins Go.Deep
open Go.Proofs.YtmenmepdmojnfaaGreatDoor.Lst (listR idxR)
open Go.Proofs.YtmenmepdmojnfaaGreatDoor.Reg (own_below own_base)

theorem ftInfo : (Tryz.prog.info? 69).map (fun i => (i.zero, i.size, i.bytes)) = some (some (.agg #[.int .i64 0, .int .i64 0, .int .i64 0]), 3, 24) := by kernel_rfl
structure Fs (w1 : World) (q : Nat) (x y : Int) (v : Value) (n : Nat) (l : List Ft) (W : World) : Prop where
 bel : Below w1.heap.size w1 W
 box : At2 W q x y
 row : W.ownsRow w1.heap.size 69 3 v n (rowT l)
section
variable {w1 W W' : World} {q n : Nat} {x y : Int} {v : Value} {l : List Ft}
theorem Fs.on (h : Fs w1 q x y v n l W) (hb : Below W.heap.size W W') : Fs w1 q x y v n l W' := ⟨h.bel.trans (hb.mono h.bel.size), h.box.on hb, own_below h.row hb (Nat.le_refl _)⟩
theorem Fs.drew (h : Fs w1 q x y v n l W) : Fs w1 q x y v n l W.drew := ⟨h.bel.drew, h.box, h.row⟩
end
def FtP (l : List Ft) (w : World) (e : Ending) (w' : World) : Prop := ∃ (A : Option Addr) (c : Nat), e = .returned (.slice A l.length c) ∧ w'.ownsRow w.heap.size 69 3 (.slice A l.length c) l.length (rowT l) ∧ Below w.heap.size w w'
set_option maxHeartbeats 4000000 in
theorem iFlips (w : World) (A : Option Addr) (m cap B h : Nat) (T : List (List Dm)) (hT : T.length = m) (hm : m ≤ 300) (hh : h ≤ 32) (hall : ∀ L ∈ T, L.length = h) (hg : Gd T) (hr : RowSS w B A m h T) (hB : B ≤ w.heap.size) (u : Nat) (hu : u < T.length) :
  Calls Tryz.prog 50 #[.slice A m cap, .int .i64 (u : Int)] w (FtP (fts T T[u]) w) := by
 obtain ⟨i0, hi, hz0, hz1, hz2⟩ := info_parts ftInfo
 have HM := Lib.hid hT
 obtain ⟨b, S, s1, s2, s3⟩ := id hr
 have huS : u < S.length := by rw [s1]; exact hu
 have hum : u < m := by omega
 obtain ⟨rfl, hbB⟩ := s2 (by omega)
 obtain ⟨c1, c2⟩ := s3 u S[u] T[u] (List.getElem?_eq_getElem huS) (List.getElem?_eq_getElem hu)
 obtain ⟨sa, sc, hs⟩ : ∃ sa sc, S[u] = (sa, sc) := ⟨S[u].1, S[u].2, rfl⟩
 rw [hs] at c1 c2
 have HC1 := Lib.hid (fun W (hb : Below w.heap.size w W) => show W.cell? ⟨b, u, none⟩ = some (.slice sa h sc) from (hb.cell (p := ⟨b, u, none⟩) (by show b < _; omega)).trans c1)
 have hLh : T[u].length = h := hall _ (List.getElem_mem hu)
 have hLf : Fits T[u] := hg.ft _ (List.getElem_mem hu)
 have HFo := Lib.hid (fun W (hb : Below w.heap.size w W) => iFlipsOf W sa h sc B T[u] hLh (by omega) (c2.below hb hB) (by have := hb.size; omega))
 have HFa := Lib.hid (fun W (hb : Below w.heap.size w W) c (hc : c ∈ flipsR T[u]) => show Calls Tryz.prog 81 #[.slice sa h sc, .agg #[.int .i64 c.1, .int .i64 c.2]] W (FlPost (flipL T[u] c.1 c.2) true W) from flips_can hc ▸ iFlipAt W sa h sc B T[u] hLh (by omega) hLf (c2.below hb hB) (by have := hb.size; omega) c.1 c.2)
 have HFn := Lib.hid (fun W (hb : Below w.heap.size w W) c (hc : c ∈ flipsR T[u]) A' c' (hr' : RowM W W.heap.size A' (flipL T[u] c.1 c.2)) => show Calls Tryz.prog 41 #[.slice (some ⟨b, 0, none⟩) m cap, .slice A' h c'] W (Num ((idx T (flipL T[u] c.1 c.2) : Nat) : Int) W) from by
  obtain ⟨j, hj, e⟩ := hg.cl u hu c hc
  have hl : (flipL T[u] c.1 c.2).length = h := by rw [← e]; exact hall _ (List.getElem_mem hj)
  have := iFind W (some ⟨b, 0, none⟩) m cap B h T hT hm hh hall (hr.below hT hb hB) (by have := hb.size; omega) A' h c' W.heap.size (flipL T[u] c.1 c.2) hl (by omega) hr' (Nat.le_refl _)
  rwa [(hg.idx hu hc).2] at this)
 have HLn := Lib.hid (fun c (hc : c ∈ flipsR T[u]) => show (flipL T[u] c.1 c.2).length = h from by
  obtain ⟨j, hj, e⟩ := hg.cl u hu c hc
  rw [← e]; exact hall _ (List.getElem_mem hj))
 have hle := flips_le T[u]
 generalize T[u] = L at HFo HFa HFn HLn hle ⊢
 have c1w := c1
 have huI : (u : Int) < (m : Int) := by omega
 have HN := Lib.hid (World.ownsRow_nil w w.heap.size 69 3)
 clear hr s1 s2 s3 hs c1 c2 hLh hLf hg hall hT huS hu hbB hB
 go_enter Tryz.func50, Tryz.ntmps50
 go_wp2_with fail
 refine (HFo.out _ (Below.refl _ _)).mono ?_
 rintro e w1 ⟨Af, cf, rfl, hof, hb1⟩
 have hrf := rowC_own hof
 have HB1 := Lib.hid hb1
 clear c1w hof hb1 HFo
 obtain ⟨bf, of, f1, f2⟩ := hrf
 have HF1 := Lib.hid f1
 have HF2 := Lib.hid f2
 clear f1 f2
 obtain ⟨nf, hnf⟩ : ∃ nf, (flipsR L).length = nf := ⟨_, rfl⟩
 rw [hnf] at hle ⊢
 have HNf := Lib.hid hnf
 have HE := Lib.hid (ftsTo_all T L)
 clear hnf
 go_wp2_with fail
 go_loopw [5, 16] (fun v i wr => ∃ k : Nat, k ≤ nf ∧ i = .int .i64 k ∧ Hid (wr.ownsRow w1.heap.size 69 3 v k (rowT (ftsTo T L k))) ∧ Below w1.heap.size w1 wr) (fun _ i _ => nf - (intOf i).toNat)
 case atStart => exact ⟨0, Nat.zero_le _, rfl, Lib.hid (by simpa [ftsTo, rowT] using World.ownsRow_nil w1 w1.heap.size 69 3), Below.refl _ _⟩
 case round =>
  clear HN
  obtain ⟨k, hk, rfl, HO, hb⟩ := hrel
  by_cases hlt : k < nf
  ·have hkf : k < (flipsR L).length := by rw [HNf.out]; exact hlt
   obtain ⟨rfl, hbf⟩ := HF1.out (by omega)
   obtain ⟨e1, e2⟩ := HF2.out k _ (List.getElem?_eq_getElem hkf)
   have d1 := (hb.cell (p := ⟨bf, of + k * 2, none⟩) hbf).trans e1
   have d2 := (hb.cell (p := ⟨bf, of + k * 2 + 1, none⟩) hbf).trans e2
   clear e1 e2
   have hmem : (flipsR L)[k] ∈ flipsR L := List.getElem_mem hkf
   have HSt := Lib.hid (ftsTo_step (T := T) hkf)
   generalize (flipsR L)[k] = c at d1 d2 hmem HSt
   have HFc := Lib.hid (fun W hb => HFa.out W hb c hmem)
   have HNc := Lib.hid (fun W hb => HFn.out W hb c hmem)
   have HLc := Lib.hid (HLn.out c hmem)
   obtain ⟨x, y⟩ := c
   simp only at d1 d2 HSt HFc HNc HLc
   have hknI : (k : Int) < (nf : Int) := by omega
   have HBw := Lib.hid (show Below w.heap.size w wr from HB1.out.trans (hb.mono HB1.out.size))
   have HF0 := Lib.hid (show ∀ o, Fs w1 wr.heap.size x y o k (ftsTo T L k) wr → True from fun _ _ => trivial)
   have HFs := Lib.hid (show Fs w1 wr.heap.size x y u5 k (ftsTo T L k) (wr.alloc (.cells #[.int .i64 x, .int .i64 y] 67)) from ⟨hb.alloc hb.size _, At2.new wr x y, HO.out.alloc _⟩)
   have HBx := Lib.hid (HBw.out.trans ((below_alloc1 wr (.cells #[.int .i64 x, .int .i64 y] 67)).mono HBw.out.size))
   clear hmem HO hb HF0 hkf
   go_upto_region 5 with fail
   clear d1 d2
   generalize wr.alloc (.cells #[.int .i64 x, .int .i64 y] 67) = Wb at HFs HBx ⊢
   generalize wr.heap.size = q at HFs ⊢
   refine wp_region_noPanic ?_
   refine wp_region_held_drew (S := (fun w' => w'.cell? ⟨b, u, none⟩ = some (.slice sa h sc) ∧ w'.cell? ⟨q, 0, none⟩ = some (.int .i64 x) ∧ w'.cell? ⟨q, 1, none⟩ = some (.int .i64 y))) (by kernel_rfl) (⟨HC1.out _ HBx.out.drew, HFs.out.drew.box.c0, HFs.out.drew.box.c1⟩) (fun hHeld => ?_)
   refine wpAnyH_take (i := 0) (v := ?_) rfl (by kernel_rfl) (by kernel_rfl) (by kernel_rfl) (fun _ _ _ h => h) (Or.inl ⟨by rfl, ?_⟩) (by assumption) ?_
   rotate_left
   ·(intro w' hS; (try dsimp only at hS); go_simp; try with_reducible rfl)
   try simp only [Act.put, List.getElem_toArray, List.getElem_cons_succ, List.getElem_cons_zero, List.setIfInBounds_toArray, List.set_cons_zero, List.set_cons_succ]
   refine wpAnyH_take (i := 1) (v := ?_) rfl (by kernel_rfl) (by kernel_rfl) (by kernel_rfl) (fun _ _ _ h => h) (Or.inl ⟨by rfl, ?_⟩) (by assumption) ?_
   rotate_left
   ·(intro w' hS; (try dsimp only at hS); go_simp; try with_reducible rfl)
   try simp only [Act.put, List.getElem_toArray, List.getElem_cons_succ, List.getElem_cons_zero, List.setIfInBounds_toArray, List.set_cons_zero, List.set_cons_succ]
   refine wpAnyH_take (i := 2) (v := ?_) rfl (by kernel_rfl) (by kernel_rfl) (by kernel_rfl) (fun _ _ _ h => h) (Or.inl ⟨by rfl, ?_⟩) (by assumption) ?_
   rotate_left
   ·(intro w' hS; (try dsimp only at hS); go_simp; try with_reducible rfl)
   try simp only [Act.put, List.getElem_toArray, List.getElem_cons_succ, List.getElem_cons_zero, List.setIfInBounds_toArray, List.set_cons_zero, List.set_cons_succ]
   refine wpAnyH_take (i := 3) (v := ?_) rfl (by kernel_rfl) (by kernel_rfl) (by kernel_rfl) (fun _ _ _ h => h) (Or.inl ⟨by rfl, ?_⟩) (by assumption) ?_
   rotate_left
   ·(intro w' hS; (try dsimp only at hS); go_simp; try with_reducible rfl)
   try simp only [Act.put, List.getElem_toArray, List.getElem_cons_succ, List.getElem_cons_zero, List.setIfInBounds_toArray, List.set_cons_zero, List.set_cons_succ]
   refine wpAnyH_take (i := 4) (v := ?_) rfl (by kernel_rfl) (by kernel_rfl) (by kernel_rfl) (fun _ _ _ h => h) (Or.inl ⟨by rfl, ?_⟩) (by assumption) ?_
   rotate_left
   ·(intro w' hS; (try dsimp only at hS); go_simp; try with_reducible rfl)
   try simp only [Act.put, List.getElem_toArray, List.getElem_cons_succ, List.getElem_cons_zero, List.setIfInBounds_toArray, List.set_cons_zero, List.set_cons_succ]
   refine wpAnyH_ready (rs := [5]) (by kernel_rfl) (by simp) ?_
   refine AllReadyH.cons rfl (fun K hK => ?_) AllReadyH.nil
   go_simp
   refine (HFc.out _ HBx.out.drew).mono ?_
   rintro e wx ⟨A2, c2, rfl, _, hown2, hb2⟩
   have HFt := Lib.hid (HFs.out.drew.on hb2)
   have HBy := Lib.hid (HBx.out.drew.trans (hb2.mono HBx.out.drew.size))
   have HR2 := Lib.hid (rowM_own hown2)
   rw [HLc.out]
   clear hown2 hb2 HFs HBx HFc hHeld
   go_wp2_with fail
   refine hK.out _ _ (⟨HC1.out _ HBy.out, HFt.out.box.c0, HFt.out.box.c1⟩) (fun hHeld => ?_)
   clear hK K
   try simp only [Act.put, List.getElem_toArray, List.getElem_cons_succ, List.getElem_cons_zero, List.setIfInBounds_toArray, List.set_cons_zero, List.set_cons_succ]
   refine wpAnyH_take (i := 6) (v := ?_) rfl (by kernel_rfl) (by kernel_rfl) (by kernel_rfl) (fun _ _ _ h => h) (Or.inl ⟨by rfl, ?_⟩) (by assumption) ?_
   rotate_left
   ·(intro w' hS; (try dsimp only at hS); go_simp; try with_reducible rfl)
   try simp only [Act.put, List.getElem_toArray, List.getElem_cons_succ, List.getElem_cons_zero, List.setIfInBounds_toArray, List.set_cons_zero, List.set_cons_succ]
   refine wpAnyH_take (i := 7) (v := ?_) rfl (by kernel_rfl) (by kernel_rfl) (by kernel_rfl) (fun _ _ _ h => h) (Or.inl ⟨by rfl, ?_⟩) (by assumption) ?_
   rotate_left
   ·(intro w' hS; (try dsimp only at hS); go_simp; try with_reducible rfl)
   try simp only [Act.put, List.getElem_toArray, List.getElem_cons_succ, List.getElem_cons_zero, List.setIfInBounds_toArray, List.set_cons_zero, List.set_cons_succ]
   refine wpAnyH_take (i := 8) (v := ?_) rfl (by kernel_rfl) (by kernel_rfl) (by kernel_rfl) (fun _ _ _ h => h) (Or.inl ⟨by rfl, ?_⟩) (by assumption) ?_
   rotate_left
   ·(intro w' hS; (try dsimp only at hS); go_simp; try with_reducible rfl)
   try simp only [Act.put, List.getElem_toArray, List.getElem_cons_succ, List.getElem_cons_zero, List.setIfInBounds_toArray, List.set_cons_zero, List.set_cons_succ]
   refine wpAnyH_take (i := 9) (v := ?_) rfl (by kernel_rfl) (by kernel_rfl) (by kernel_rfl) (fun _ _ _ h => h) (Or.inl ⟨by rfl, ?_⟩) (by assumption) ?_
   rotate_left
   ·(intro w' hS; (try dsimp only at hS); go_simp; try with_reducible rfl)
   try simp only [Act.put, List.getElem_toArray, List.getElem_cons_succ, List.getElem_cons_zero, List.setIfInBounds_toArray, List.set_cons_zero, List.set_cons_succ]
   refine wpAnyH_take (i := 10) (v := ?_) rfl (by kernel_rfl) (by kernel_rfl) (by kernel_rfl) (fun _ _ _ h => h) (Or.inl ⟨by rfl, ?_⟩) (by assumption) ?_
   rotate_left
   ·(intro w' hS; (try dsimp only at hS); go_simp; try with_reducible rfl)
   try simp only [Act.put, List.getElem_toArray, List.getElem_cons_succ, List.getElem_cons_zero, List.setIfInBounds_toArray, List.set_cons_zero, List.set_cons_succ]
   refine wpAnyH_done (by kernel_rfl) ?_ _
   refine NoPanic.normal ?_
   clear hHeld
   generalize wx = W5 at HFt HBy HR2 ⊢
   go_upto_region 6 with fail
   refine wp_region_noPanic ?_
   refine wp_region_held_drew (S := (fun w' => w'.cell? ⟨q, 0, none⟩ = some (.int .i64 x) ∧ w'.cell? ⟨q, 1, none⟩ = some (.int .i64 y))) (by kernel_rfl) (⟨HFt.out.drew.box.c0, HFt.out.drew.box.c1⟩) (fun hHeld => ?_)
   refine wpAnyH_take (i := 0) (v := ?_) rfl (by kernel_rfl) (by kernel_rfl) (by kernel_rfl) (fun _ _ _ h => h) (Or.inl ⟨by rfl, ?_⟩) (by assumption) ?_
   rotate_left
   ·(intro w' hS; (try dsimp only at hS); go_simp; try with_reducible rfl)
   try simp only [Act.put, List.getElem_toArray, List.getElem_cons_succ, List.getElem_cons_zero, List.setIfInBounds_toArray, List.set_cons_zero, List.set_cons_succ]
   refine wpAnyH_take (i := 1) (v := ?_) rfl (by kernel_rfl) (by kernel_rfl) (by kernel_rfl) (fun _ _ _ h => h) (Or.inl ⟨by rfl, ?_⟩) (by assumption) ?_
   rotate_left
   ·(intro w' hS; (try dsimp only at hS); go_simp; try with_reducible rfl)
   try simp only [Act.put, List.getElem_toArray, List.getElem_cons_succ, List.getElem_cons_zero, List.setIfInBounds_toArray, List.set_cons_zero, List.set_cons_succ]
   refine wpAnyH_take (i := 2) (v := ?_) rfl (by kernel_rfl) (by kernel_rfl) (by kernel_rfl) (fun _ _ _ h => h) (Or.inl ⟨by rfl, ?_⟩) (by assumption) ?_
   rotate_left
   ·(intro w' hS; (try dsimp only at hS); go_simp; try with_reducible rfl)
   try simp only [Act.put, List.getElem_toArray, List.getElem_cons_succ, List.getElem_cons_zero, List.setIfInBounds_toArray, List.set_cons_zero, List.set_cons_succ]
   refine wpAnyH_take (i := 3) (v := ?_) rfl (by kernel_rfl) (by kernel_rfl) (by kernel_rfl) (fun _ _ _ h => h) (Or.inl ⟨by rfl, ?_⟩) (by assumption) ?_
   rotate_left
   ·(intro w' hS; (try dsimp only at hS); go_simp; try with_reducible rfl)
   try simp only [Act.put, List.getElem_toArray, List.getElem_cons_succ, List.getElem_cons_zero, List.setIfInBounds_toArray, List.set_cons_zero, List.set_cons_succ]
   refine wpAnyH_ready (rs := [4]) (by kernel_rfl) (by simp) ?_
   refine AllReadyH.cons rfl (fun K hK => ?_) AllReadyH.nil
   go_simp
   refine (HNc.out _ HBy.out.drew _ _ HR2.out).mono ?_
   rintro e wx ⟨rfl, hb3⟩
   have HFu := Lib.hid (HFt.out.drew.on hb3)
   clear hb3 HFt HBy HNc HR2 hHeld
   go_wp2_with fail
   refine hK.out _ _ (⟨HFu.out.box.c0, HFu.out.box.c1⟩) (fun hHeld => ?_)
   clear hK K
   try simp only [Act.put, List.getElem_toArray, List.getElem_cons_succ, List.getElem_cons_zero, List.setIfInBounds_toArray, List.set_cons_zero, List.set_cons_succ]
   refine wpAnyH_take (i := 5) (v := ?_) rfl (by kernel_rfl) (by kernel_rfl) (by kernel_rfl) (fun _ _ _ h => h) (Or.inl ⟨by rfl, ?_⟩) (by assumption) ?_
   rotate_left
   ·(intro w' hS; (try dsimp only at hS); go_simp; try with_reducible rfl)
   try simp only [Act.put, List.getElem_toArray, List.getElem_cons_succ, List.getElem_cons_zero, List.setIfInBounds_toArray, List.set_cons_zero, List.set_cons_succ]
   refine wpAnyH_ready (rs := [6]) (by kernel_rfl) (by simp) ?_
   refine AllReadyH.cons rfl (fun K hK => ?_) AllReadyH.nil
   go_simp
   have HFv := Lib.hid (HFu.out.on (below_alloc1 wx (.cells #[.int .i64 x, .int .i64 y, .int .i64 ((idx T (flipL L x y) : Nat) : Int)] 69)))
   refine hK.out _ _ (⟨HFv.out.box.c0, HFv.out.box.c1⟩) (fun hHeld => ?_)
   clear hK K
   try simp only [Act.put, List.getElem_toArray, List.getElem_cons_succ, List.getElem_cons_zero, List.setIfInBounds_toArray, List.set_cons_zero, List.set_cons_succ]
   refine wpAnyH_ready (rs := [7]) (by kernel_rfl) (by simp) ?_
   refine AllReadyH.cons rfl (fun K hK => ?_) AllReadyH.nil
   refine step_append_lies _ (by rfl) _ _ 75 (by rfl) w1.heap.size 69 i0 (.agg #[.int .i64 0, .int .i64 0, .int .i64 0]) 3 24 Tryz.underlying75 hi hz0 hz1 hz2 rfl (by decide) u5 k (rowT (ftsTo T L k)) (by rfl) HFv.out.row ⟨wx.heap.size, 0, none⟩ 1 1 [.int .i64 x, .int .i64 y, .int .i64 ((idx T (flipL L x y) : Nat) : Int)] (by rfl) rfl (World.news_of_block (cs := #[.int .i64 x, .int .i64 y, .int .i64 ((idx T (flipL L x y) : Nat) : Int)]) (t := 69) (fr := (0, 0)) (heap_alloc_new wx _)) (by simp [Value.oneCell']) (by omega) (by unfold maxLen; omega) (by omega) (by have := HFv.out.bel.size; exact this) _ rfl ?_
   intro g c w7 hown7 hg7 hwh7 hlt7
   have HO7 := Lib.hid (show w7.ownsRow w1.heap.size 69 3 (.slice (some ⟨g, 0, none⟩) (k + 1) c) (k + 1) (rowT (ftsTo T L (k + 1))) by rw [HSt.out, rowT_snoc]; exact hown7)
   have hb7 := HFv.out.bel.grown hg7 HFv.out.bel.size (fun q hq => (HFv.out.row.lt q hq).1)
   have hbx : At2 w7 q x y := (hg7.block q HFv.out.box.lt (fun e => by
    rcases HFv.out.row.2 with ⟨hv, _⟩ | ⟨g2, cap2, cur2, hv, _, hg2, _⟩
    ·rw [hv] at e; cases e
    ·rw [hv] at e
     injection e with e
     subst e
     have h2 := HFv.out.box
     unfold At2 at h2
     rw [hg2] at h2
     injection h2 with h2
     injection h2 with _ h2
     exact absurd h2 (by decide))).trans HFv.out.box
   clear hown7 hg7 hwh7 hlt7 HFu HFv
   refine hK.out _ _ (⟨hbx.c0, hbx.c1⟩) (fun hHeld => ?_)
   clear hK K
   try simp only [Act.put, List.getElem_toArray, List.getElem_cons_succ, List.getElem_cons_zero, List.setIfInBounds_toArray, List.set_cons_zero, List.set_cons_succ]
   refine wpAnyH_take (i := 8) (v := ?_) rfl (by kernel_rfl) (by kernel_rfl) (by kernel_rfl) (fun _ _ _ h => h) (Or.inl ⟨by rfl, ?_⟩) (by assumption) ?_
   rotate_left
   ·(intro w' hS; (try dsimp only at hS); go_simp; try with_reducible rfl)
   try simp only [Act.put, List.getElem_toArray, List.getElem_cons_succ, List.getElem_cons_zero, List.setIfInBounds_toArray, List.set_cons_zero, List.set_cons_succ]
   refine wpAnyH_done (by kernel_rfl) ?_ _
   refine NoPanic.normal ?_
   go_wp2
   go_roundw
   case rel => exact ⟨k + 1, by omega, by go_num, HO7, hb7⟩
   case measure => (simp [intOf] <;> omega)
  ·obtain rfl : k = nf := by omega
   obtain ⟨A2, cap2, rfl⟩ := own_shape HO.out
   have HO2 := Lib.hid (show FtP (fts T L) w (.returned (.slice A2 k cap2)) wr from by
    have e := HO.out
    rw [← HNf.out, HE.out] at e
    refine ⟨A2, cap2, by rw [fts_length, HNf.out], ?_, HB1.out.trans (hb.mono HB1.out.size)⟩
    rw [fts_length]
    rw [HNf.out] at e ⊢
    exact own_base e HB1.out.size)
   clear HO
   go_wp2
   go_ret
   exact HO2.out
end Go.Proofs.YtmenmepdmojnfaaGreatDoor.Wg

namespace Go.Proofs.YtmenmepdmojnfaaGreatDoor.Wg
set_option linter.unusedVariables false
set_option linter.unusedSimpArgs false
set_option maxRecDepth 100000
open Go.RowKit Go.Proofs.YtmenmepdmojnfaaGreatDoor.Base Go.Joins
open Go.Proofs.YtmenmepdmojnfaaGreatDoor.Reg (own_below own_base intInfo)

theorem iMul1 (n : Nat) (hn : n ≤ 2000000) (w : World) : Calls Tryz.prog 99 #[.int .u64 1, .int .u64 (n : Int)] w fun e w' => e = .returned (.tuple #[.int .u64 0, .int .u64 (n : Int)]) ∧ w' = w := by
 have h := Any.bits_Mul Tryz.mulU 1 n (by omega) (by omega) w
 rw [Nat.one_mul, Nat.div_eq_of_lt (by omega), Nat.mod_eq_of_lt (by omega)] at h
 exact h
def rowR (n k : Nat) : List Value := List.replicate k (.int .i64 (-1)) ++ List.replicate (n - k) (.int .i64 0)
theorem rowR_length {n k : Nat} (h : k ≤ n) : (rowR n k).length = n := by unfold rowR; rw [List.length_append, List.length_replicate, List.length_replicate]; omega
theorem rowR_at {n k i : Nat} (h : i < k) : (rowR n k)[i]? = some (.int .i64 (-1)) := by unfold rowR; rw [List.getElem?_append_left (by rw [List.length_replicate]; exact h), List.getElem?_replicate, if_pos h]
theorem rowR_put {n k c : Nat} (h : k + c ≤ n) : splice (rowR n k) k (List.replicate c (.int .i64 (-1))) = rowR n (k + c) := by
 unfold splice rowR
 rw [List.take_append_of_le_length (by simp), List.take_of_length_le (by simp), List.length_replicate, List.drop_append, List.drop_eq_nil_of_le (by simp), List.nil_append, List.length_replicate, show k + c - k = c by omega, List.drop_replicate, ← List.append_assoc, List.replicate_append_replicate, show n - k - c = n - (k + c) by omega]
theorem rowR_all (n : Nat) : rowR n n = rowF n (fun _ => -1) := by
 unfold rowR rowF
 rw [Nat.sub_self, List.replicate_zero, List.append_nil, List.map_const', List.length_range]
theorem rep_heap {W : World} {base b n : Nat} {xs : List Value} (h : W.ownsRow base 3 1 (.slice (some ⟨b, 0, none⟩) n n) n xs) : W.heap[b]? = some (.cells xs.toArray 3 (0, 0)) := by
 rcases h.2 with ⟨h', _⟩ | ⟨g', cap', cur, h', _, hg, hsz, hz2, hcs, htake⟩
 ·simp at h'
 ·simp only [Value.slice.injEq, Option.some.injEq, Addr.mk.injEq, and_true, true_and] at h'
  obtain ⟨rfl, rfl⟩ := h'
  rw [hg, ← htake, Nat.mul_one, List.take_of_length_le (by rw [Array.length_toList]; omega)]
theorem rep_own {W : World} {base b n : Nat} {xs : List Value} (hb : base ≤ b) (hl : xs.length = n) (hn : n ≤ 2000000) (h : W.heap[b]? = some (.cells xs.toArray 3 (0, 0))) : W.ownsRow base 3 1 (.slice (some ⟨b, 0, none⟩) n n) n xs :=
 ⟨by rw [hl, Nat.mul_one], .inr ⟨b, n, xs.toArray, rfl, hb, h, Nat.le_refl _, by unfold maxLen; omega, by simp [hl], by rw [Nat.mul_one, List.take_of_length_le (by simp [hl])]⟩⟩
theorem ints_size : (Tryz.prog.info? 3).map (·.size) = some 1 := by kernel_rfl
def RepP (n : Nat) (w : World) (e : Ending) (w' : World) : Prop := ∃ b, e = .returned (.slice (some ⟨b, 0, none⟩) n n) ∧ NumR w' w.heap.size b n (fun _ => -1) ∧ Below w.heap.size w w'
set_option maxHeartbeats 4000000 in
theorem iRepeat (w : World) (g n : Nat) (h1 : 0 < n) (hn : n ≤ 300) (hg : g < w.heap.size) (hc : w.cell? ⟨g, 0, none⟩ = some (.int .i64 (-1))) :
  Calls Tryz.prog 67 #[.slice (some ⟨g, 0, none⟩) 1 1, .int .i64 (n : Int)] w (RepP n w) := by
 obtain ⟨i0, hi, hz0, hz1, hz2⟩ := info_parts intInfo
 have HMu := Lib.hid (fun w => iMul1 n (by omega) w)
 have hwu : IntKind.u64.wrap (n : Int) = (n : Int) := by rw [IntKind.wrap_u64]; omega
 have hwi : IntKind.i64.wrap (n : Int) = (n : Int) := by rw [IntKind.wrap_i64]; omega
 have hneg : ¬ (n : Int) < 0 := by omega
 have hmax : ¬ (9223372036854775807 : Int) < (n : Int) := by omega
 have HS := Lib.hid ints_size
 have HG := Lib.hid hg
 have HC := Lib.hid hc
 clear hg hc
 go_enter Tryz.func67, Tryz.ntmps67
 go_wp2_with fail
 refine (HMu.out _).mono ?_
 rintro e w1 ⟨rfl, hw1⟩
 have hw1 := hw1.symm
 subst hw1
 clear HMu
 have HZ := Lib.hid (show (madeCells (Value.int .i64 0).cells (n * 1)).toList = rowR n 0 by
  rw [show (Value.int .i64 0).cells = #[.int .i64 0] from rfl, Nat.mul_one, toList_madeCells_one]; unfold rowR; simp)
 go_upto_region 7 with (at_make; go_loud (refine wpList_make_full _ rfl _ _ 24 rfl w.heap.size 3 i0 (.int .i64 0) 1 Tryz.underlying24 hi hz0 hz1 .i64 .i64 (n : Int) (n : Int) n rfl rfl rfl rfl (by rw [hz2]; omega) (by unfold maxLen; omega) (by omega) ?_; intro w2 hown2 hg2))
 have HB2 := Lib.hid (show Below w.heap.size w w2 from (Below.refl _ _).grown hg2 (by omega) (by simp))
 rw [HZ.out] at hown2
 have HH2 := Lib.hid (rep_heap hown2)
 clear hown2 hg2 HZ
 have HC2 := Lib.hid (show w2.cell? ⟨g, 0, none⟩ = some (.int .i64 (-1)) from (HB2.out.cell (p := ⟨g, 0, none⟩) HG.out).trans HC.out)
 obtain ⟨b, hbz⟩ : ∃ b, w.heap.size = b := ⟨_, rfl⟩
 rw [hbz] at HH2 ⊢
 have HBz := Lib.hid hbz
 clear hbz hwu hwi
 have hone : ((1 : Nat) : Int) = 1 := rfl
 have HSrc := Lib.hid (show ∀ (j : Nat) (v : Value), [Value.int .i64 (-1)][j]? = some v → w2.cell? ((⟨g, 0, none⟩ : Addr).add j) = some v from fun j v hj => by
  rcases j with _ | j
  ·simp at hj; subst hj; rw [Base.add_plain]; exact HC2.out
  ·simp at hj)
 have HP := Lib.hid (show splice (rowR n 0) 0 [Value.int .i64 (-1)] = rowR n (0 + 1) from rowR_put (c := 1) (by omega))
 have HLn := Lib.hid (rowR_length (n := n) (k := 0) (Nat.zero_le _))
 have HMin := Lib.hid (show [Value.int .i64 (-1)].length = Nat.min 1 n from (Nat.min_eq_left (show 1 ≤ n from h1)).symm)
 go_wp2_with ((with_reducible change wpList _ _ _ (_ :: _) _ _); (refine wpList_copy_splice rfl _ _ 24 24 rfl 3 Tryz.underlying24 HS.out (some ⟨b, 0, none⟩) (some ⟨g, 0, none⟩) n n 1 1 rfl rfl b 0 (rowR n 0) 3 HH2.out [.int .i64 (-1)] HMin.out (fun _ => ⟨rfl, ⟨g, 0, none⟩, rfl, HSrc.out⟩) (by rw [HLn.out]; show 0 + 1 ≤ n; omega) (by simp [Value.oneCell']) w.heap.size w HB2.out (by have := HBz.out; omega) ?_; intro w3 HH3 hb3))
 rw [HP.out] at HH3
 have HB3 := Lib.hid hb3
 clear hb3 HH2 HSrc HP HLn HMin HC2 HB2 HC HG
 go_loopw [8] (fun v wr => ∃ k : Nat, 0 < k ∧ k ≤ n ∧ v = .int .i64 k ∧ Hid (wr.heap[b]? = some (.cells (rowR n k).toArray 3 (0, 0))) ∧ Hid (Below w.heap.size w wr)) (fun v _ => n - (intOf v).toNat)
 case atStart => exact ⟨0 + 1, by omega, by omega, rfl, HH3, HB3⟩
 case round =>
  clear HH3 HB3
  obtain ⟨k, hk0, hk, rfl, HH, HB⟩ := hrel
  by_cases hlt : k < n
  ·obtain ⟨c, hc⟩ : ∃ c, c = min k (n - k) := ⟨_, rfl⟩
   have hc0 : 0 < c := by omega
   have hkc : k + c ≤ n := by omega
   have HK := Lib.hid (rowR_put hkc)
   have HLn := Lib.hid (show k + (List.replicate c (Value.int .i64 (-1))).length ≤ (rowR n k).length by rw [rowR_length hk, List.length_replicate]; exact hkc)
   have HMin := Lib.hid (show (List.replicate c (Value.int .i64 (-1))).length = Nat.min k (n - k) by rw [List.length_replicate, hc])
   have HC1 := Lib.hid (show ∀ v ∈ List.replicate c (Value.int .i64 (-1)), v.oneCell' = true from fun v hv => by rw [List.eq_of_mem_replicate hv]; rfl)
   have HSrc := Lib.hid (show ∀ W : World, W.heap[b]? = some (.cells (rowR n k).toArray 3 (0, 0)) → ∀ (j : Nat) (v : Value), (List.replicate c (Value.int .i64 (-1)))[j]? = some v → W.cell? ((⟨b, 0, none⟩ : Addr).add j) = some v from fun W hW j v hj => by
    have hjc : j < c := by have := (List.getElem?_eq_some_iff.1 hj).1; rw [List.length_replicate] at this; exact this
    rw [List.getElem?_replicate, if_pos hjc] at hj
    rw [Base.add_plain, ← hj, ← rowR_at (n := n) (k := k) (i := j) (by omega)]
    unfold World.cell?
    rw [show W.heap[(⟨b, j, none⟩ : Addr).block]? = _ from hW]
    simp)
   obtain ⟨X, hX⟩ : ∃ X, X = List.replicate c (Value.int .i64 (-1)) := ⟨_, rfl⟩
   have HX := Lib.hid (show X.length = c by rw [hX, List.length_replicate])
   rw [← hX] at HK HLn HMin HC1 HSrc
   clear hX
   have HBz2 := Lib.hid (show w.heap.size ≤ b from by have := HBz.out; omega)
   have hknI : (k : Int) < (n : Int) := by omega
   have hknE : (k : Int) ≤ (n : Int) := by omega
   have hkne : ¬ n = k := by omega
   have hwrap : IntKind.i64.wrap ((k : Int) + (c : Int)) = ((k + c : Nat) : Int) := by rw [IntKind.wrap_i64]; omega
   clear hc
   go_upto_region 9 with fail
   refine wp_region_noPanic ?_
   refine wp_region_held_drew (S := fun _ => True) (by kernel_rfl) trivial (fun hHeld => ?_)
   refine wpAnyH_take (i := 0) (v := ?_) rfl (by kernel_rfl) (by kernel_rfl) (by kernel_rfl) (fun _ _ _ h => h) (Or.inl ⟨by rfl, ?_⟩) (by assumption) ?_
   rotate_left
   ·(intro w' hS; (try dsimp only at hS); go_simp; try with_reducible rfl)
   try simp only [Act.put, List.getElem_toArray, List.getElem_cons_succ, List.getElem_cons_zero, List.setIfInBounds_toArray, List.set_cons_zero, List.set_cons_succ]
   refine wpAnyH_take (i := 1) (v := ?_) rfl (by kernel_rfl) (by kernel_rfl) (by kernel_rfl) (fun _ _ _ h => h) (Or.inl ⟨by rfl, ?_⟩) (by assumption) ?_
   rotate_left
   ·(intro w' hS; (try dsimp only at hS); go_simp; try with_reducible rfl)
   try simp only [Act.put, List.getElem_toArray, List.getElem_cons_succ, List.getElem_cons_zero, List.setIfInBounds_toArray, List.set_cons_zero, List.set_cons_succ]
   refine wpAnyH_take (i := 2) (v := ?_) rfl (by kernel_rfl) (by kernel_rfl) (by kernel_rfl) (fun _ _ _ h => h) (Or.inl ⟨by rfl, ?_⟩) (by assumption) ?_
   rotate_left
   ·(intro w' hS; (try dsimp only at hS); go_simp; try with_reducible rfl)
   try simp only [Act.put, List.getElem_toArray, List.getElem_cons_succ, List.getElem_cons_zero, List.setIfInBounds_toArray, List.set_cons_zero, List.set_cons_succ]
   refine wpAnyH_take (i := 3) (v := ?_) rfl (by kernel_rfl) (by kernel_rfl) (by kernel_rfl) (fun _ _ _ h => h) (Or.inl ⟨by rfl, ?_⟩) (by assumption) ?_
   rotate_left
   ·(intro w' hS; (try dsimp only at hS); go_simp; try with_reducible rfl)
   try simp only [Act.put, List.getElem_toArray, List.getElem_cons_succ, List.getElem_cons_zero, List.setIfInBounds_toArray, List.set_cons_zero, List.set_cons_succ]
   refine wpAnyH_take (i := 4) (v := ?_) rfl (by kernel_rfl) (by kernel_rfl) (by kernel_rfl) (fun _ _ _ h => h) (Or.inl ⟨by rfl, ?_⟩) (by assumption) ?_
   rotate_left
   ·(intro w' hS; (try dsimp only at hS); go_simp; try with_reducible rfl)
   try simp only [Act.put, List.getElem_toArray, List.getElem_cons_succ, List.getElem_cons_zero, List.setIfInBounds_toArray, List.set_cons_zero, List.set_cons_succ]
   refine wpAnyH_take (i := 5) (v := ?_) rfl (by kernel_rfl) (by kernel_rfl) (by kernel_rfl) (fun _ _ _ h => h) (Or.inl ⟨by rfl, ?_⟩) (by assumption) ?_
   rotate_left
   ·(intro w' hS; (try dsimp only at hS); go_simp; try with_reducible rfl)
   try simp only [Act.put, List.getElem_toArray, List.getElem_cons_succ, List.getElem_cons_zero, List.setIfInBounds_toArray, List.set_cons_zero, List.set_cons_succ]
   refine wpAnyH_take (i := 6) (v := ?_) rfl (by kernel_rfl) (by kernel_rfl) (by kernel_rfl) (fun _ _ _ h => h) (Or.inl ⟨by rfl, ?_⟩) (by assumption) ?_
   rotate_left
   ·(intro w' hS; (try dsimp only at hS); go_simp; try with_reducible rfl)
   try simp only [Act.put, List.getElem_toArray, List.getElem_cons_succ, List.getElem_cons_zero, List.setIfInBounds_toArray, List.set_cons_zero, List.set_cons_succ]
   refine wpAnyH_ready (rs := [7]) (by kernel_rfl) (by simp) ?_
   refine AllReadyH.cons rfl (fun K hK => ?_) AllReadyH.nil
   refine step_copy_splice (by rfl) (.tmp 41) (.tmp 44) 24 24 (by rfl) 3 Tryz.underlying24 HS.out (some ⟨b, k, none⟩) (some ⟨b, 0, none⟩) (n - k) _ k _ (by rfl) (by rfl) b k (rowR n k) 3 HH.out X HMin.out (fun _ => ⟨rfl, ⟨b, 0, none⟩, rfl, HSrc.out wr.drew HH.out⟩) HLn.out HC1.out w.heap.size w HB.out.drew HBz2.out ?_
   intro w4 HH4 hb4
   rw [HK.out] at HH4
   rw [HX.out]
   have HB4 := Lib.hid hb4
   clear hb4 HSrc HC1 HMin HLn HK HX HH HB
   refine hK.out _ _ trivial (fun hHeld => ?_)
   clear hK K
   try simp only [Act.put, List.getElem_toArray, List.getElem_cons_succ, List.getElem_cons_zero, List.setIfInBounds_toArray, List.set_cons_zero, List.set_cons_succ]
   refine wpAnyH_take (i := 8) (v := ?_) rfl (by kernel_rfl) (by kernel_rfl) (by kernel_rfl) (fun _ _ _ h => h) (Or.inl ⟨by rfl, ?_⟩) (by assumption) ?_
   rotate_left
   ·(intro w' hS; (try dsimp only at hS); go_simp; try with_reducible rfl)
   try simp only [Act.put, List.getElem_toArray, List.getElem_cons_succ, List.getElem_cons_zero, List.setIfInBounds_toArray, List.set_cons_zero, List.set_cons_succ]
   refine wpAnyH_take (i := 9) (v := ?_) rfl (by kernel_rfl) (by kernel_rfl) (by kernel_rfl) (fun _ _ _ h => h) (Or.inl ⟨by rfl, ?_⟩) (by assumption) ?_
   rotate_left
   ·(intro w' hS; (try dsimp only at hS); go_simp; try with_reducible rfl)
   try simp only [Act.put, List.getElem_toArray, List.getElem_cons_succ, List.getElem_cons_zero, List.setIfInBounds_toArray, List.set_cons_zero, List.set_cons_succ]
   refine wpAnyH_done (by kernel_rfl) ?_ _
   refine NoPanic.normal ?_
   clear hHeld
   go_wp2
   go_roundw
   case rel => exact ⟨k + c, by omega, hkc, by go_num, HH4, HB4⟩
   case measure => (simp [intOf] <;> omega)
  ·obtain rfl : k = n := by omega
   have HF := Lib.hid (show RepP k w (.returned (.slice (some ⟨b, 0, none⟩) k k)) wr from ⟨b, rfl, by
    unfold NumR
    rw [← rowR_all]
    exact rep_own (by have := HBz.out; omega) (rowR_length (Nat.le_refl _)) (by omega) HH.out, HB.out⟩)
   clear HH HB
   go_wp2
   go_ret
   exact HF.out
end Go.Proofs.YtmenmepdmojnfaaGreatDoor.Wg
