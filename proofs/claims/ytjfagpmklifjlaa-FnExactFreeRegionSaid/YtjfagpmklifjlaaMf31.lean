/- FrM, LFrR, LCtW in one text. -/
import Derived.Test.YtjfagpmklifjlaaMf29
import Derived.Test.YtjfagpmklifjlaaMf26
import Derived.Test.YtjfagpmklifjlaaMf30
import Derived.Test.YtjfagpmklifjlaaMf17
import Derived.Test.YtjfagpmklifjlaaMf08
import Derived.Test.YtjfagpmklifjlaaMf18

namespace Go.Proofs.Ytjfagpmklifjlaa.Frd
set_option linter.unusedVariables false
set_option linter.unusedSimpArgs false
set_option maxRecDepth 100000
open Go.RowKit Go.Proofs.Ytjfagpmklifjlaa.Base Go.Proofs.Ytjfagpmklifjlaa.Pure Go.Proofs.Ytjfagpmklifjlaa.Cell Go.Proofs.Ytjfagpmklifjlaa.Dom Go.Proofs.Ytjfagpmklifjlaa.Dms Go.Proofs.Ytjfagpmklifjlaa.Til Go.Proofs.Ytjfagpmklifjlaa.Fr Go.Joins
open Go.Proofs.Ytjfagpmklifjlaa.Prof (sCountTilings)
open Go.Proofs.Ytjfagpmklifjlaa.Cnt (tilesR)
open Go.Proofs.Ytjfagpmklifjlaa.Reg hiding Yes add_none RC rc_start

structure GS (w : World) (v : Value) (p : Nat) (va : Value) (k : Nat) (ys : List Int) (W : World) : Prop where
 bel : Below w.heap.size w W
 box : Rg W w.heap.size v
 res : Rg W (w.heap.size + 1) (.slice none 0 0)
 cp : Rg W p va
 low : w.heap.size + 2 ≤ p
 own : W.ownsRow (w.heap.size + 2) 3 1 va k (ints ys)
 ne : va.ownBlock ≠ some p
section
variable {w W W' : World} {v va va' : Value} {p k k' : Nat} {ys ys' : List Int}
theorem GS.on (h : GS w v p va k ys W) (hb : Below W.heap.size W W') : GS w v p va k ys W' :=
 ⟨h.bel.trans (hb.mono h.bel.size), h.box.on hb, h.res.on hb, h.cp.on hb, h.low, Reg.own_below h.own hb (Nat.le_refl _), h.ne⟩
theorem gs_start (hb : Below w.heap.size w W) (h1 : Rg W w.heap.size v) (h2 : Rg W (w.heap.size + 1) (.slice none 0 0)) (ho : W.ownsRow (w.heap.size + 2) 3 1 va k (ints ys)) : GS w v W.heap.size va k ys (W.alloc (.cells #[va] 26)) := by
 have l2 := h2.lt
 have bl := below_alloc1 W (.cells #[va] 26)
 refine ⟨hb.trans (bl.mono hb.size), h1.on bl, h2.on bl, Rg.new W va, by omega, ho.alloc _, fun e => ?_⟩
 have := (ho.lt _ e).2
 omega
theorem GS.wr (h : GS w v p va k ys W) : W.cell? ⟨p, 0, none⟩ = some va ∧ W.frozen? ⟨p, 0, none⟩ = false := ⟨h.cp.c0, (cellAt h.cp 0).2⟩
theorem GS.grown {o : Obj} (h : GS w v p va k ys W) (hg : (W.alloc o).grownBy W' va.ownBlock) (ho : W'.ownsRow (w.heap.size + 2) 3 1 va' k' (ints ys')) (hat : va.ownBlock = va'.ownBlock ∨ va'.ownBlock = some (W.heap.size + 1)) :
  W'.cell? ⟨p, 0, none⟩ = some va ∧ W'.frozen? ⟨p, 0, none⟩ = false ∧ GS w v p va' k' ys' (W'.setCell ⟨p, 0, none⟩ va') := by
 have hpl := h.cp.lt
 have hrl := h.res.lt
 have hlow := h.low
 have hz : (W.alloc o).heap.size = W.heap.size + 1 := by simp
 have hz2 := hg.size
 have hk : ∀ j u, Rg W j u → some j ≠ va.ownBlock → Rg W' j u := fun j u hj hne => (hg.block j (by have := hj.lt; omega) hne).trans (hj.on (below_alloc1 W o))
 have hb3 : Rg W' p va := hk p va h.cp (fun q => h.ne q.symm)
 have nlow : ∀ j, j < w.heap.size + 2 → some j ≠ va.ownBlock := fun j hj e => by have := (h.own.lt j e.symm).1; omega
 have hs : ∀ j u, Rg W' j u → j ≠ p → Rg (W'.setCell ⟨p, 0, none⟩ va') j u := fun j u hj hne => (Below.heap_setCell W' _ va' j hne).trans hj
 refine ⟨hb3.c0, (cellAt hb3 0).2, ?_, hs _ _ (hk _ _ h.box (nlow _ (by omega))) (by omega), hs _ _ (hk _ _ h.res (nlow _ (by omega))) (by omega), ?_, h.low, ?_, ?_⟩
 ·exact (((h.bel.alloc h.bel.size o).grown hg (by rw [hz]; have := h.bel.size; omega) (fun q hq => by have := (h.own.lt q hq).1; omega))).setCell (p := ⟨p, 0, none⟩) (by show w.heap.size ≤ p; omega) va'
 ·have := block_setCell hb3 va' (i := 0)
  exact this
 ·refine (ho.kept (row := some p) ⟨rfl, rfl, rfl, by simp [World.setCell], fun j hj hne => Below.heap_setCell W' _ va' j (fun q => hne (by rw [q]))⟩ (.inr ?_))
  rcases hat with q | q
  ·rw [← q]; exact h.ne
  ·rw [q]; intro r; injection r with r; omega
 ·rcases hat with q | q
  ·rw [← q]; exact h.ne
  ·rw [q]; intro r; injection r with r; omega
theorem GS.repl (h : GS w v p va k ys W) (hb : Below W.heap.size W W') (ho : W'.ownsRow W.heap.size 3 1 va' k' (ints ys')) : GS w v p va' k' ys' (W'.setCell ⟨p, 0, none⟩ va') := by
 have h' := h.on hb
 have hpl := h.cp.lt
 have hlow := h.low
 have hrl := h.res.lt
 have hne : va'.ownBlock ≠ some p := fun e => by have := (ho.lt p e).1; omega
 have hs : ∀ j u, Rg W' j u → j ≠ p → Rg (W'.setCell ⟨p, 0, none⟩ va') j u := fun j u hj hn => (Below.heap_setCell W' _ va' j hn).trans hj
 refine ⟨h'.bel.setCell (p := ⟨p, 0, none⟩) (by show w.heap.size ≤ p; omega) va', hs _ _ h'.box (by omega), hs _ _ h'.res (by omega), ?_, h.low, ?_, hne⟩
 ·have := block_setCell h'.cp va' (i := 0)
  exact this
 ·exact ((own_base ho (by omega)).kept (row := some p) ⟨rfl, rfl, rfl, by simp [World.setCell], fun j hj hn => Below.heap_setCell W' _ va' j (fun q => hn (by rw [q]))⟩ (.inr hne))
end
theorem less_with {ys : List Int} (ok : okR ys) {x y : Int} {b : Bool} (hd : domB x y b = true) : withX (withX ys x y false) (sx x b) (sy y b) false = lessD ys (x, y, b) ∧ okR (lessD ys (x, y, b)) ∧ (lessD ys (x, y, b)).length = 8 ∧ (withX ys x y false).length = 8 ∧ (withX ys x y false).length ≤ 1048576 := by
 have hk : okM (x, y, b) = true := hd
 obtain ⟨k1, _, k3⟩ := lessD_less ok hk
 have hs := second_in hk
 simp only at hs
 have o1 : okR ys ∧ Ok x y := ⟨ok, by unfold Ok; omega⟩
 have w1 : withX ys x y false = withR ys x.toNat y.toNat false := by unfold withX; rw [if_pos o1]
 have ok2 : okR (withR ys x.toNat y.toNat false) := Cnt.okR_with ok (by omega) (by omega)
 have o2 : okR (withR ys x.toNat y.toNat false) ∧ Ok (sx x b) (sy y b) := ⟨ok2, by unfold Ok; omega⟩
 refine ⟨?_, k1, k3, ?_, ?_⟩
 ·rw [w1]; unfold withX; rw [if_pos o2]; rfl
 ·rw [w1]; exact withR_length ok.1 _ _ _
 ·rw [w1, withR_length ok.1]; omega
theorem freeD_take {xs : List Int} {F : List Dm} {t : Nat} (ht : t < F.length) : freeD xs (F.take (t + 1)) = lessD (freeD xs (F.take t)) F[t] := by
 unfold freeD; rw [List.take_succ_eq_append_getElem ht, List.foldl_append]; rfl

set_option maxHeartbeats 8000000 in
theorem sFreeRegion (w : World) (A : Option Addr) (n cap B : Nat) (xs : List Int) (hx : xs.length = n) (hn : (n : Int) ≤ 1048576) (h : RowB w B A xs) (hB : B ≤ w.heap.size) (hcap : A = none → n = 0 ∧ cap = 0) :
  Calls Try.prog 33 #[.agg #[.slice A n cap]] w (RegPost (freeR xs) (freeR xs).length w) := by
 obtain ⟨i0, hi, hz0, hz1, hz2⟩ := info_parts intInfo
 have HT := Lib.hid (fun W (hb : Below w.heap.size w W) => sCountTilings W A n cap B xs hx (by omega) (h.below hb hB) (by have := hb.size; omega))
 have HCp := Lib.hid (fun W (hb : Below w.heap.size w W) => sCopy W A n cap B xs hx hn (h.below hb hB) (by have := hb.size; omega) hcap)
 have HF := Lib.hid (fun W (hb : Below w.heap.size w W) => sForced W A n cap B xs hx hn (h.below hb hB) (by have := hb.size; omega) hcap)
 have HR0 := Lib.hid (rw2_start w (.slice A n cap))
 have HX := Lib.hid hx
 have hnn : tilesR xs ≠ 0 → 0 < tilesR xs ∧ okR xs := fun q => by
  have ok : okR xs := Classical.byContradiction fun r => q (tiles_not r)
  rw [tiles_cnt ok] at q ⊢
  exact ⟨by omega, ok⟩
 have HTl := Lib.hid (show tilesR xs = 0 → freeR xs = xs from fun q => if_neg (by omega))
 have HTy := Lib.hid (show tilesR xs ≠ 0 → freeR xs = freeD xs (forcD xs) ∧ n ≤ 8 from fun q => ⟨if_pos (hnn q).1, by have := (hnn q).2.1; omega⟩)
 have HVal := Lib.hid (fun d (hd : d ∈ forcD xs) => forcD_ok d hd)
 have HGo := Lib.hid (fun (q : tilesR xs ≠ 0) t => freeD_less (hnn q).2 (F := (forcD xs).take t) (fun d hd => forcD_ok d (List.mem_of_mem_take hd)))
 have HFt := Lib.hid (fun t (ht : t < (forcD xs).length) => freeD_take (xs := xs) ht)
 have hFl : (forcD xs).length ≤ 128 := by
  rw [← inT_all]
  exact Nat.le_trans (List.length_filter_le _ _) (by
   by_cases ok : okR xs
   ·rw [← poss_fits ok]; exact Nat.le_trans (List.length_filter_le _ _) (allD_len xs)
   ·unfold possD; rw [if_neg ok]; simp)
 have HFl := Lib.hid hFl
 have HPS := Lib.hid (fun k (hk : n ≤ k) => pad_step xs k (by rw [hx]; exact hk))
 rw [hx] at HPS
 have HPd := Lib.hid (show xs ++ List.replicate (8 - n) 0 = freeD xs [] by unfold freeD pad8; rw [hx]; rfl)
 unfold DmE at HF
 generalize forcD xs = F at HF HTy HVal HGo HFt HFl
 generalize freeR xs = R at HTl HTy ⊢
 generalize tilesR xs = m at HT HTl HTy HGo
 clear hx h hcap hnn hFl
 go_enter Try.func33, Try.ntmps33
 go_wp2_with fail
 generalize (w.alloc (.cells #[.slice A n cap] 26)).alloc (.cells #[.slice none 0 0] 26) = W0 at HR0 ⊢
 obtain ⟨B0, r0, s0, z0⟩ := HR0.out
 have c0 := r0.c0
 go_wp2_with fail
 refine (HT.out _ B0).mono ?_
 rintro e w1 ⟨rfl, hb1⟩
 have B1 := B0.trans (hb1.mono B0.size)
 have r1 := r0.on hb1
 have s1 := s0.on hb1
 have z1 := hb1.size
 clear HR0 B0 r0 s0 c0 hb1 HT
 by_cases hm : m = 0
 ·have HE := Lib.hid (HTl.out hm)
  have hm1 : (m == 0) = true := by simp [hm]
  have c0 := r1.c0
  clear HTy HTl HF HGo
  go_wp2_with fail
  refine (HCp.out _ B1).mono ?_
  rintro e w2 ⟨A1, c1, rfl, hown, hb2⟩
  have B2 := B1.trans (hb2.mono B1.size)
  have s2 := s1.on hb2
  have c0 := s2.c0
  have f0 : w2.frozen? ⟨w.heap.size + 1, 0, none⟩ = false := (cellAt s2 0).2
  have hres := World.cell?_setCell_same w2 ⟨w.heap.size + 1, 0, none⟩ (.slice A1 n c1) (u := .slice none 0 0) c0
  have HP := Lib.hid (show RegPost R R.length w (.returned (.agg #[.slice A1 n c1])) (w2.setCell ⟨w.heap.size + 1, 0, none⟩ (.slice A1 n c1)) from by
   rw [HE.out, HX.out]
   exact ⟨_, c1, rfl, own_base (ownsRow_setCell_below hown (by show w.heap.size + 1 < w1.heap.size; omega) _) (by omega), B2.setCell (p := ⟨w.heap.size + 1, 0, none⟩) (by show w.heap.size ≤ w.heap.size + 1; omega) _⟩)
  clear hown hb2 B1 r1 s1 s2
  go_wp2
  exact bodyPost_ret (v := .agg #[.slice A1 n c1]) (by simp [results, Try.results33, go_sem, hres]) rfl HP.out
 ·have hm1 : (m == 0) = false := by simp [hm]
  obtain ⟨hE, hn8⟩ := HTy.out hm
  have HE := Lib.hid hE
  have HG := Lib.hid (HGo.out hm)
  have c0 := r1.c0
  clear HTy HTl HGo hE
  go_wp2_with fail
  refine (HCp.out _ B1).mono ?_
  rintro e w2 ⟨A1, c1, rfl, hown, hb2⟩
  have S1 := Lib.hid (gs_start (B1.trans (hb2.mono B1.size)) (r1.on hb2) (s1.on hb2) (own_base hown (by omega)))
  have z2 := hb2.size
  clear hown hb2 B1 r1 s1 c0 HCp
  go_upto_region 4 with fail
  have S2 := S1.out
  generalize w2.alloc (.cells #[.slice A1 n c1] 26) = W3 at S2 ⊢
  generalize w2.heap.size = p at S2 ⊢
  have HS3 := Lib.hid S2
  clear S1 S2 z0 z1 z2
  go_wp2_with fail
  go_loopw [] (fun wr => ∃ (k : Nat) (va : Value), n ≤ k ∧ k ≤ 8 ∧ Hid (GS w (.slice A n cap) p va k (xs ++ List.replicate (k - n) 0) wr)) (fun wr => 8 - lenIn (wr.cell? ⟨p, 0, none⟩))
  case atStart => exact ⟨n, .slice A1 n c1, Nat.le_refl _, hn8, Lib.hid (by rw [Nat.sub_self, List.replicate_zero, List.append_nil]; exact HS3.out)⟩
  case round =>
   clear HS3
   obtain ⟨k, va, hnk, hk8, HS⟩ := hrel
   obtain ⟨A2, cap2, rfl⟩ := own_shape HS.out.own
   obtain ⟨cp, fp⟩ := HS.out.wr
   by_cases hlt : k < 8
   ·have hsz := HS.out.box.lt
    have HOwn := Lib.hid HS.out.own
    have HStep := Lib.hid (HPS.out k hnk)
    go_wp2_with (first | (at_builtin; refine wpList_append_lies _ rfl _ _ 24 rfl (w.heap.size + 2) 3 i0 (.int .i64 0) 1 8 Try.underlying24 hi hz0 hz1 hz2 rfl (by decide) (.slice A2 k cap2) k (ints (xs ++ List.replicate (k - n) 0)) (by rfl) (HOwn.out.alloc _) ⟨wr.heap.size, 0, none⟩ 1 1 [.int .i64 0] (by rfl) rfl (World.news_of_block (cs := #[.int .i64 0]) (t := 3) (fr := (0, 0)) (heap_alloc_new wr _)) (by simp [Value.oneCell']) (by decide) (by unfold maxLen; omega) (by omega) (by have := HS.out.res.lt; simp; omega) (wr.heap.size + 1) (by simp) ?_; intro gg capn w4 hown4 hgrow hat hlt4; obtain ⟨d1, g1, S6⟩ := HS.out.grown (va' := .slice (some ⟨gg, 0, none⟩) (k + 1) capn) (k' := k + 1) (ys' := xs ++ List.replicate (k + 1 - n) 0) hgrow (by rw [← HStep.out, ints_snoc]; exact hown4) (by rcases hat with q | q; exact .inl q; exact .inr (by rw [q]; rfl)); have HS6 := Lib.hid S6; clear hown4 hgrow hat hlt4 S6))
    have hm6 := HS6.out.wr.1
    go_wp2
    go_roundw
    case rel => exact ⟨k + 1, _, by omega, by omega, HS6⟩
    case measure => (simp [lenIn, cp, hm6] <;> omega)
   ·obtain rfl : k = 8 := by omega
    rw [HPd.out] at HS
    have c0 := HS.out.box.c0
    have HF2 := Lib.hid (HF.out _ HS.out.bel)
    clear HF HPS hnk hk8
    go_wp2_with fail
    refine HF2.out.mono ?_
    rintro e w5 ⟨A5, c5, rfl, hown5, hb5⟩
    obtain ⟨b, ob, hlb, hob, hsrc, hbz⟩ := src_doms (z := w.heap.size) hown5 (by have := HS.out.box.lt; have := hb5.size; omega)
    have hbp : b ≠ p := by have := HS.out.cp.lt; have := HS.out.low; omega
    obtain ⟨off, hA1, hR1⟩ := hsrc
    have HA1 := Lib.hid hA1
    have HRd := Lib.hid hR1
    have HS6 := Lib.hid (show GS w (.slice A n cap) p (.slice A2 8 cap2) 8 (freeD xs (F.take 0)) w5 ∧ b < w5.heap.size ∧ w5.heap[b]? = ob from ⟨HS.out.on hb5, hlb, hob⟩)
    clear HF2 HS c0 cp fp hlt hown5 hb5 hA1 hR1 hlb hob hbz
    obtain ⟨N, hN⟩ : ∃ N, N = F.length := ⟨_, rfl⟩
    rw [← hN] at HA1 HFl ⊢
    have HN := Lib.hid hN
    clear hN
    go_wp2_with fail
    go_loopw [5] (fun si wr => ∃ (t : Nat) (va : Value), t ≤ N ∧ si = .int .i64 t ∧ Hid (GS w (.slice A n cap) p va 8 (freeD xs (F.take t)) wr ∧ b < wr.heap.size ∧ wr.heap[b]? = ob)) (fun si _ => N - (intOf si).toNat)
    case atStart => exact ⟨0, _, Nat.zero_le _, rfl, HS6⟩
    case round =>
     clear HS6
     obtain ⟨t, va, ht, rfl, HS⟩ := hrel
     have hN64 := HFl.out
     obtain ⟨A6, c6, rfl⟩ := own_shape HS.out.1.own
     by_cases hlt : t < N
     ·have hti : t < F.length := by rw [← HN.out]; exact hlt
      obtain rfl := HA1.out (by omega)
      obtain ⟨S6, l6, b6⟩ := HS.out
      obtain ⟨c0, c1, c2⟩ := HRd.out _ b6 t hti
      have hv := HVal.out F[t] (List.getElem_mem hti)
      have HFt2 := Lib.hid (HFt.out t hti)
      generalize F[t] = d at c0 c1 c2 hv HFt2
      obtain ⟨x, y, s⟩ := d
      simp only at c0 c1 c2
      have hd : domB x y s = true := hv
      obtain ⟨ok, _, h8⟩ := HG.out t
      obtain ⟨q1, q2, q3, q4, q5⟩ := less_with ok hd
      have HU := Lib.hid (fun W => sCellsUnder_ok x y s hd W)
      rw [← HFt2.out] at q1 q3
      have q6 := q3
      generalize sx x s = u at HU q1
      generalize sy y s = v at HU q1
      generalize hY2 : freeD xs (F.take (t + 1)) = Y2 at q1 q6
      have HY2 := Lib.hid hY2
      clear hY2
      generalize freeD xs (F.take t) = Y0 at S6 h8 q1 q4 q5
      have HW1 := Lib.hid (fun W A c (hc : A = none → 8 = 0 ∧ c = 0) (hr : RowB W W.heap.size A Y0) => sWithCell W A 8 c W.heap.size Y0 h8 (by omega) hr (Nat.le_refl _) hc x y false)
      generalize withX Y0 x y false = Y1 at HW1 q1 q4 q5
      have HW2 := Lib.hid (fun W A c (hc : A = none → 8 = 0 ∧ c = 0) (hr : RowB W W.heap.size A Y1) => sWithCell W A 8 c W.heap.size Y1 q4 (by omega) hr (Nat.le_refl _) hc u v false)
      rw [q1, q6] at HW2
      rw [q4] at HW1
      generalize withB Y0 x y = bb1 at HW1
      generalize withB Y1 u v = bb2 at HW2
      have htN : (t : Int) < (N : Int) := by omega
      clear HS ok h8 q1 q2 q3 q4 q5 q6 hd hv
      go_wp2_with fail
      refine (HU.out _).mono ?_
      rintro e w7 ⟨rfl, hb7⟩
      have S7 := S6.on hb7
      have l7 : b < w7.heap.size := Nat.lt_of_lt_of_le l6 hb7.size
      have b7 := (hb7.block b l6).trans b6
      clear c0 c1 c2 S6 l6 b6 hb7 HU
      go_upto_region 11 with fail
      obtain ⟨k1, k2, k3⟩ := at2_two w7 x y u v
      have S8 := S7.on k3
      have l8 := Nat.lt_of_lt_of_le l7 k3.size
      have b8 := (k3.block b l7).trans b7
      generalize (w7.alloc (.cells #[.int .i64 x, .int .i64 y] 38)).alloc (.cells #[.int .i64 u, .int .i64 v] 38) = W8 at k1 k2 S8 l8 b8 ⊢
      have hz1 : w7.heap.size ≠ p := by have := S7.cp.lt; omega
      have hz2 : w7.heap.size + 1 ≠ p := by have := S7.cp.lt; omega
      generalize w7.heap.size + 1 = p2 at k2 hz2 ⊢
      generalize w7.heap.size = p1 at k1 hz1 ⊢
      clear k3 S7 l7 b7
      have cp := S8.cp.c0
      have d0 := k1.c0
      have d1 := k1.c1
      go_wp2_with fail
      refine (HW1.out _ _ _ (own_none S8.own) (rowB_own S8.own)).mono ?_
      rintro e w9 ⟨A9, c9, rfl, hown9, hb9⟩
      have HS9 := Lib.hid (S8.repl hb9 hown9)
      obtain ⟨cp9, fp9⟩ := (S8.on hb9).wr
      have k9 := (k2.on hb9)
      have l9 := Nat.lt_of_lt_of_le l8 hb9.size
      have b9 := (hb9.block b l8).trans b8
      clear S8 k1 k2 l8 b8 cp d0 d1 hown9 hb9 HW1
      go_upto_region 12 with fail
      have S10 := HS9.out
      have K10 : At2 (w9.setCell ⟨p, 0, none⟩ (.slice A9 8 c9)) p2 u v := (Below.heap_setCell _ _ _ _ hz2).trans k9
      have l10 : b < (w9.setCell ⟨p, 0, none⟩ (.slice A9 8 c9)).heap.size := by simp [World.setCell]; omega
      have b10 : (w9.setCell ⟨p, 0, none⟩ (.slice A9 8 c9)).heap[b]? = ob := (Below.heap_setCell _ _ _ _ hbp).trans b9
      generalize w9.setCell ⟨p, 0, none⟩ (.slice A9 8 c9) = W10 at S10 K10 l10 b10 ⊢
      clear HS9 cp9 fp9 k9 l9 b9
      have cp := S10.cp.c0
      have d0 := K10.c0
      have d1 := K10.c1
      go_wp2_with fail
      refine (HW2.out _ _ _ (own_none S10.own) (rowB_own S10.own)).mono ?_
      rintro e w11 ⟨A11, c11, rfl, hown11, hb11⟩
      have HS11 := Lib.hid (S10.repl hb11 hown11)
      obtain ⟨cp11, fp11⟩ := (S10.on hb11).wr
      have l11 := Nat.lt_of_lt_of_le l10 hb11.size
      have b11 := (hb11.block b l10).trans b10
      have HS12 := Lib.hid (show b < (w11.setCell ⟨p, 0, none⟩ (.slice A11 8 c11)).heap.size ∧ (w11.setCell ⟨p, 0, none⟩ (.slice A11 8 c11)).heap[b]? = ob from ⟨by simp [World.setCell]; omega, (Below.heap_setCell _ _ _ _ hbp).trans b11⟩)
      clear S10 K10 l10 b10 cp d0 d1 hown11 hb11 HW2 l11 b11
      go_wp2
      go_roundw
      case rel => exact ⟨t + 1, _, by omega, by go_num, Lib.hid ⟨by rw [HY2.out]; exact HS11.out, HS12.out⟩⟩
      case measure => (simp [intOf] <;> omega)
     ·obtain rfl : N = t := by omega
      have S := HS.out.1
      rw [List.take_of_length_le (by rw [← HN.out]; exact Nat.le_refl _), ← HE.out] at S
      have hl8 : R.length = 8 := by have := S.own.1; rw [ints_length] at this; omega
      have cp := S.cp.c0
      have c0 := S.res.c0
      have f0 : wr.frozen? ⟨w.heap.size + 1, 0, none⟩ = false := (cellAt S.res 0).2
      have hres := World.cell?_setCell_same wr ⟨w.heap.size + 1, 0, none⟩ (.slice A6 8 c6) (u := .slice none 0 0) c0
      have HP := Lib.hid (show RegPost R R.length w (.returned (.agg #[.slice A6 8 c6])) (wr.setCell ⟨w.heap.size + 1, 0, none⟩ (.slice A6 8 c6)) from by
       rw [hl8]
       exact ⟨_, c6, rfl, own_base (ownsRow_setCell_below S.own (by show w.heap.size + 1 < w.heap.size + 2; omega) _) (by omega), S.bel.setCell (p := ⟨w.heap.size + 1, 0, none⟩) (by show w.heap.size ≤ w.heap.size + 1; omega) _⟩)
      clear S HS
      go_wp2
      exact bodyPost_ret (v := .agg #[.slice A6 8 c6]) (by simp [results, Try.results33, go_sem, hres]) rfl HP.out
end Go.Proofs.Ytjfagpmklifjlaa.Frd

namespace Go.Proofs.Ytjfagpmklifjlaa.Frd
set_option linter.unusedVariables false
set_option linter.unusedSimpArgs false
set_option maxRecDepth 100000
open Go.RowKit Go.Proofs.Ytjfagpmklifjlaa.Pure Go.Proofs.Ytjfagpmklifjlaa.Dom Go.Proofs.Ytjfagpmklifjlaa.Fr Go.Joins
open Go.Proofs.Ytjfagpmklifjlaa.Reg hiding add_none RC rc_start Yes

theorem freeR_len (xs : List Int) : (freeR xs).length ≤ xs.length + 8 := by
 unfold freeR; split
 ·rename_i h
  have ok : okR xs := Classical.byContradiction fun q => by rw [tiles_not q] at h; omega
  have := (freeD_less ok (F := forcD xs) forcD_ok).2.2
  omega
 ·omega

set_option maxHeartbeats 8000000 in
theorem lawFreeRegion (w : World) (A : Option Addr) (n cap : Nat) (xs : List Int) (hx : xs.length = n) (hn : (n : Int) ≤ 9223372036854775807) (h : RowB w w.heap.size A xs) :
  Calls Try.prog 6 #[.agg #[.slice A n cap]] w (Dom.Yes w) := by
 have T0 := Lib.hid (fun T => rb_start (T := T) (.slice A n cap) w)
 have HZ := Lib.hid (fun W => szRegion A n cap 1048576 (by omega) (by omega) hn W)
 by_cases hs : (n : Int) ≤ 1048576
 ·have HTo := Lib.hid (fun W (hr : RB w (.slice A n cap) W) => toRegion W A n cap w.heap.size xs hx hs (h.below hr.1 (Nat.le_refl _)) hr.1.size)
  have HEq := Lib.hid (fun W A A' c c' (h1 : RowB W W.heap.size A xs) (h2 : RowB W W.heap.size A' xs) => eqRegion W A A' n c c' _ _ xs hx hn h1 h2 (Nat.le_refl _) (Nat.le_refl _))
  have HS := Lib.hid (fun W A c lo (ho : W.ownsRow lo 3 1 (.slice A n c) n (ints xs)) => sFreeRegion W A n c W.heap.size xs hx hs (rowB_own ho) (Nat.le_refl _) (own_none ho))
  have HI := Lib.hid (fun W A c lo (ho : W.ownsRow lo 3 1 (.slice A n c) n (ints xs)) => iFreeRegion W A n c W.heap.size xs hx hs (rowB_own ho) (Nat.le_refl _) (own_none ho))
  have HL := freeR_len xs
  generalize freeR xs = L at HS HI HL
  obtain ⟨m, hm⟩ : ∃ m, m = L.length := ⟨_, rfl⟩
  unfold RegPost at HS HI
  rw [← hm] at HS HI HL
  have HEL := Lib.hid (fun W A A' c c' (h1 : RowB W W.heap.size A L) (h2 : RowB W W.heap.size A' L) => eqRegion W A A' m c c' _ _ L hm.symm (by omega) h1 h2 (Nat.le_refl _) (Nat.le_refl _))
  have hz := szR_yes hs
  generalize szR 1048576 n = z at HZ hz
  obtain ⟨z0, z1⟩ := hz
  have z2 : ¬ z < 0 := by omega
  obtain ⟨k1, hk1⟩ : ∃ k1 : Int, k1 = ((1 + n : Nat) : Int) := ⟨_, rfl⟩
  have hk0 : ¬ k1 < 0 := by omega
  have HMx := Lib.hid (fun W B H p A c (hr : BoxAt W B H p (.slice A n c) n (ints xs)) => markBox W B H p n c A xs k1 hk1 (by omega) hr)
  obtain ⟨g1, hg1⟩ : ∃ g1 : Int, g1 = ((1 + m : Nat) : Int) := ⟨_, rfl⟩
  have hg0 : ¬ g1 < 0 := by omega
  have hgg : (g1 != g1) = false := by simp
  have HMg := Lib.hid (fun W B H p A c (hr : BoxAt W B H p (.slice A m c) m (ints L)) => markBox W B H p m c A L g1 hg1 (by omega) hr)
  have HHg := Lib.hid (fun W A c (hr : RowB W W.heap.size A (marksI 1 m)) => heldReg1 W m c _ A g1 hg1 (by omega) hr (Nat.le_refl _))
  clear hs hx hn h hm hk1 hg1 HL
  go_enter Try.func6, Try.ntmps6
  go_wp2_with fail
  have T1 := T0.out 47
  clear T0
  refine (HZ.out _).mono ?_
  rintro e w1 ⟨rfl, hb1⟩
  have T2 := T1.on hb1
  clear T1 hb1 HZ
  have c0 := T2.2.2
  go_wp2_with fail
  refine (HTo.out _ T2).mono ?_
  rintro e w2 ⟨A1, cap1, rfl, hown, hb2⟩
  have T3 := T2.on hb2
  have HR1 := Lib.hid hown
  clear T2 hown hb2 c0
  go_wp2_with fail
  refine (HS.out _ _ _ _ HR1.out).mono ?_
  rintro e w3 ⟨Aw, cw, rfl, hown, hb3⟩
  have T4 := T3.on hb3
  have S0 := Lib.hid (box_last hown hb3.size)
  have hw3 := hb3.size
  have hw2 := T3.2.1
  clear T3 hb3 HS HR1 hown
  go_upto_region 6 with fail
  have T5 := T4.on (below_alloc1 w3 (.cells #[.slice Aw m cw] 26))
  have S1 := Lib.hid S0.out
  generalize w3.alloc (.cells #[.slice Aw m cw] 26) = W4 at T5 S1 ⊢
  generalize w3.heap.size = pw at S1 ⊢
  generalize w2.heap.size = b0 at S1 hw2
  clear S0 T4 hw3
  have c0 := T5.2.2
  go_wp2_with fail
  refine (HTo.out _ T5).mono ?_
  rintro e w5 ⟨Ax, cx, rfl, hown, hb5⟩
  have T6 := T5.on hb5
  have S2 := Lib.hid (S1.out.on hb5)
  have X0 := Lib.hid (box_last hown hb5.size)
  have hw5 := hb5.size
  clear T5 S1 hown hb5 c0
  go_upto_region 7 with fail
  have T7 := T6.on (below_alloc1 w5 (.cells #[.slice Ax n cx] 26))
  have S3 := Lib.hid (S2.out.on (below_alloc1 w5 (.cells #[.slice Ax n cx] 26)))
  have X1 := X0.out
  generalize w5.alloc (.cells #[.slice Ax n cx] 26) = W6 at T7 S3 X1 ⊢
  generalize w5.heap.size = px at X1 ⊢
  generalize hW4 : W4.heap.size = h0 at S3 X1 hw5
  clear hW4 T6 S2 X0 hw5
  have c0 := X1.cell
  go_wp2_with fail
  refine (HI.out _ _ _ _ X1.own).mono ?_
  rintro e w7 ⟨Ag, cg, rfl, hown, hb7⟩
  have T8 := T7.on hb7
  have S4 := Lib.hid (S3.out.on hb7)
  have X2 := Lib.hid (X1.on hb7)
  have G0 := Lib.hid (box_last hown hb7.size)
  clear T7 S3 X1 hown hb7 c0
  go_upto_region 8 with fail
  have T9 := T8.on (below_alloc1 w7 (.cells #[.slice Ag m cg] 26))
  have S5 := S4.out.on (below_alloc1 w7 (.cells #[.slice Ag m cg] 26))
  have X3 := X2.out.on (below_alloc1 w7 (.cells #[.slice Ag m cg] 26))
  have G1 := G0.out
  generalize w7.alloc (.cells #[.slice Ag m cg] 26) = W8 at T9 S5 X3 G1 ⊢
  generalize w7.heap.size = pg at G1 ⊢
  generalize hh1 : W6.heap.size = h1 at X3 G1
  generalize hh2 : W8.heap.size = h2 at G1
  have l1 : h0 ≤ h1 := by have a := X3.2.1; have b := X3.2.2.1; omega
  have l2 : h1 ≤ h2 := by have a := G1.2.1; have b := G1.2.2.1; omega
  have l0 : w.heap.size + 1 ≤ b0 := hw2
  have l3 : b0 ≤ h0 := by have a := S5.2.1; have b := S5.2.2.1; omega
  clear hh1 hh2 T8 S4 X2 G0 hw2
  have cg0 := G1.cell
  have cw0 := S5.cell
  go_wp2_with fail
  refine (HEL.out _ _ _ _ _ G1.row S5.row).mono ?_
  rintro e w9 ⟨rfl, hb9⟩
  have T10 := T9.on hb9
  have S6 := Lib.hid (S5.on hb9)
  have X4 := X3.on hb9
  have G2 := Lib.hid (G1.on hb9)
  clear T9 S5 X3 G1 hb9 cg0 cw0
  go_upto_region 10 with fail
  refine wp_region_noPanic ?_
  have T11 : RB w (.slice A n cap) w9.drew := T10.drew
  have X5 : BoxAt w9.drew h0 h1 px (.slice Ax n cx) n (ints xs) := X4
  have S7 := Lib.hid (show BoxAt w9.drew b0 h0 pw (.slice Aw m cw) m (ints L) from S6.out)
  have G3 := Lib.hid (show BoxAt w9.drew h1 h2 pg (.slice Ag m cg) m (ints L) from G2.out)
  refine wp_region_held_drew (S := fun w' => w'.cell? ⟨w.heap.size, 0, none⟩ = some (.slice A n cap) ∧ w'.cell? ⟨px, 0, none⟩ = some (.slice Ax n cx)) (by kernel_rfl) (⟨T11.2.2, X5.cell⟩) (fun hHeld => ?_)
  generalize w9.drew = W10 at T11 X5 S7 G3 hHeld ⊢
  clear T10 S6 X4 G2
  refine wpAnyH_take (i := 0) (v := ?_) rfl (by kernel_rfl) (by kernel_rfl) (by kernel_rfl) (fun _ _ _ h => h) (Or.inl ⟨by rfl, ?_⟩) (by assumption) ?_
  rotate_left
  ·(intro w' hS; (try dsimp only at hS); go_simp; try with_reducible rfl)
  try simp only [Act.put, List.getElem_toArray, List.getElem_cons_succ, List.getElem_cons_zero, List.setIfInBounds_toArray, List.set_cons_zero, List.set_cons_succ]
  refine wpAnyH_take (i := 1) (v := ?_) rfl (by kernel_rfl) (by kernel_rfl) (by kernel_rfl) (fun _ _ _ h => h) (Or.inl ⟨by rfl, ?_⟩) (by assumption) ?_
  rotate_left
  ·(intro w' hS; (try dsimp only at hS); go_simp; try with_reducible rfl)
  try simp only [Act.put, List.getElem_toArray, List.getElem_cons_succ, List.getElem_cons_zero, List.setIfInBounds_toArray, List.set_cons_zero, List.set_cons_succ]
  refine wpAnyH_ready (rs := [2]) (by kernel_rfl) (by simp) ?_
  refine AllReadyH.cons rfl (fun K hK => ?_) AllReadyH.nil
  go_simp
  refine (HTo.out _ T11).mono ?_
  rintro e wx ⟨A3, c3, rfl, hown3, hbx⟩
  have HR3 := Lib.hid (rowB_own hown3)
  have T11 := T11.on hbx
  have X5 := X5.on hbx
  have S7 := Lib.hid (S7.out.on hbx)
  have G3 := Lib.hid (G3.out.on hbx)
  clear hown3 hbx
  go_wp2_with fail
  refine hK.out _ _ (⟨T11.2.2, X5.cell⟩) (fun hHeld => ?_)
  clear hK K
  try simp only [Act.put, List.getElem_toArray, List.getElem_cons_succ, List.getElem_cons_zero, List.setIfInBounds_toArray, List.set_cons_zero, List.set_cons_succ]
  refine wpAnyH_ready (rs := [3]) (by kernel_rfl) (by simp) ?_
  refine AllReadyH.cons rfl (fun K hK => ?_) AllReadyH.nil
  go_simp
  refine (HEq.out _ _ _ _ _ X5.row HR3.out).mono ?_
  rintro e wx ⟨rfl, hbx⟩
  have T11 := T11.on hbx
  have X5 := X5.on hbx
  have S7 := Lib.hid (S7.out.on hbx)
  have G3 := Lib.hid (G3.out.on hbx)
  clear hbx
  go_wp2_with fail
  refine hK.out _ _ (⟨T11.2.2, X5.cell⟩) (fun hHeld => ?_)
  clear hK K
  try simp only [Act.put, List.getElem_toArray, List.getElem_cons_succ, List.getElem_cons_zero, List.setIfInBounds_toArray, List.set_cons_zero, List.set_cons_succ]
  refine wpAnyH_take (i := 4) (v := ?_) rfl (by kernel_rfl) (by kernel_rfl) (by kernel_rfl) (fun _ _ _ h => h) (Or.inl ⟨by rfl, ?_⟩) (by assumption) ?_
  rotate_left
  ·(intro w' hS; (try dsimp only at hS); go_simp; try with_reducible rfl)
  try simp only [Act.put, List.getElem_toArray, List.getElem_cons_succ, List.getElem_cons_zero, List.setIfInBounds_toArray, List.set_cons_zero, List.set_cons_succ]
  refine wpAnyH_done (by kernel_rfl) ?_ _
  refine NoPanic.normal ?_
  clear hHeld HR3 HEq
  have cx0 := X5.cell
  go_wp2_with fail
  refine (HMx.out _ _ _ _ _ _ X5).mono ?_
  rintro e w11 ⟨rfl, X6, ha⟩
  have S8 := S7.out.far ha (.inl (Nat.le_refl _))
  have G4 := G3.out.far ha (.inr (Nat.le_refl _))
  have T12 := T11.onB (ha.below (B := w.heap.size + 1) (by omega) (by have := X5.2.2.2.1; omega)) (Nat.le_refl _)
  clear T11 X5 S7 G3 ha HMx cx0 X6
  have cg0 := G4.cell
  have cw0 := S8.cell
  go_wp2_with fail
  refine (HEL.out _ _ _ _ _ G4.row S8.row).mono ?_
  rintro e w12 ⟨rfl, hb12⟩
  have T13 := T12.on hb12
  have S9 := S8.on hb12
  have G5 := G4.on hb12
  clear T12 S8 G4 hb12 cg0 cw0
  have cg0 := G5.cell
  go_wp2_with fail
  refine (HMg.out _ _ _ _ _ _ G5).mono ?_
  rintro e w13 ⟨rfl, G6, ha⟩
  have S10 := S9.far ha (.inl (by omega))
  have T14 := T13.onB (ha.below (B := w.heap.size + 1) (by omega) (by have := G5.2.2.2.1; omega)) (Nat.le_refl _)
  clear T13 S9 G5 ha HMg cg0
  have cg0 := G6.cell
  go_wp2_with fail
  refine (HHg.out _ _ _ G6.row).mono ?_
  rintro e w14 ⟨rfl, hb14⟩
  have T15 := T14.on hb14
  have S11 := S10.on hb14
  have G7 := G6.on hb14
  clear T14 S10 G6 hb14 cg0
  have c0 := T15.2.2
  go_wp2_with fail
  refine (HTo.out _ T15).mono ?_
  rintro e w15 ⟨A5, c5, rfl, hown, hb15⟩
  have T16 := T15.on hb15
  have S12 := S11.on hb15
  have G8 := G7.on hb15
  have HR5 := Lib.hid hown
  clear T15 S11 G7 hown hb15 c0
  go_wp2_with fail
  refine (HI.out _ _ _ _ HR5.out).mono ?_
  rintro e w16 ⟨Ah, ch, rfl, hown, hb16⟩
  have T17 := T16.on hb16
  have S13 := S12.on hb16
  have G9 := G8.on hb16
  have H0 := Lib.hid (box_last hown hb16.size)
  clear T16 S12 G8 HR5 hown hb16
  go_upto_region 25 with fail
  have T18 := T17.on (below_alloc1 w16 (.cells #[.slice Ah m ch] 26))
  have S14 := S13.on (below_alloc1 w16 (.cells #[.slice Ah m ch] 26))
  have G10 := G9.on (below_alloc1 w16 (.cells #[.slice Ah m ch] 26))
  have H1 := H0.out
  generalize w16.alloc (.cells #[.slice Ah m ch] 26) = W17 at T18 S14 G10 H1 ⊢
  generalize w16.heap.size = ph at H1 ⊢
  clear T17 S13 G9 H0
  have ch0 := H1.cell
  have cw0 := S14.cell
  go_wp2_with fail
  refine (HEL.out _ _ _ _ _ H1.row S14.row).mono ?_
  rintro e w18 ⟨rfl, hb18⟩
  have T19 := T18.on hb18
  have G11 := G10.on hb18
  clear T18 S14 G10 H1 hb18 ch0 cw0
  have cg0 := G11.cell
  go_wp2_with fail
  refine (HHg.out _ _ _ G11.row).mono ?_
  rintro e w19 ⟨rfl, hb19⟩
  have hb := (T19.on hb19).1
  clear T19 G11 hb19 cg0
  go_wp2
  go_ret
  exact ⟨rfl, hb⟩
 ·rw [szR_no hs] at HZ
  clear hs hx hn h
  go_enter Try.func6, Try.ntmps6
  go_wp2_with fail
  have T1 := T0.out 47
  clear T0
  refine (HZ.out _).mono ?_
  rintro e w1 ⟨rfl, hb1⟩
  have hb := (T1.on hb1).1
  clear T1 hb1 HZ
  go_wp2
  go_ret
  exact ⟨rfl, hb⟩
end Go.Proofs.Ytjfagpmklifjlaa.Frd

namespace Go.Proofs.Ytjfagpmklifjlaa.Prof
set_option linter.unusedVariables false
set_option linter.unusedSimpArgs false
open Go.RowKit Go.Proofs.Ytjfagpmklifjlaa.Reg Go.Proofs.Ytjfagpmklifjlaa.Cnt Go.Joins

set_option maxHeartbeats 400000 in
theorem toDom (x y : Int) (b : Bool) (w : World) :
  Calls Try.prog 36 #[.agg #[.int .i64 x, .int .i64 y, .bool b]] w (fun e w' => e = .returned (.agg #[.int .i64 x, .int .i64 y, .bool b]) ∧ Below w.heap.size w w') := by
 go_enter Try.func36, Try.ntmps36
 go_wp2
 exact bodyPost_ret (v := .agg #[.int .i64 x, .int .i64 y, .bool b]) (by simp [results, Try.results36, go_sem]) rfl ⟨rfl, below_alloc3 _ _ _ _⟩
def RDm (w : World) (v : Value) (x y : Int) (b : Bool) (W : World) : Prop :=
 Below w.heap.size w W ∧ w.heap.size + 2 ≤ W.heap.size ∧ W.cell? ⟨w.heap.size, 0, none⟩ = some v ∧ W.cell? ⟨w.heap.size + 1, 0, none⟩ = some (.int .i64 x) ∧ W.cell? ⟨w.heap.size + 1, 1, none⟩ = some (.int .i64 y) ∧ W.cell? ⟨w.heap.size + 1, 2, none⟩ = some (.bool b)
section
variable {w W W' : World} {v : Value} {x y : Int} {b : Bool}
theorem RDm.on (h : RDm w v x y b W) (hb : Below W.heap.size W W') : RDm w v x y b W' := by
 obtain ⟨h0, h1, h2, h3, h4, h5⟩ := h
 have hz := hb.size
 refine ⟨h0.trans (hb.mono (by omega)), by omega, ?_, ?_, ?_, ?_⟩
 ·exact (hb.cell (by show w.heap.size < _; omega)).trans h2
 ·exact (hb.cell (by show w.heap.size + 1 < _; omega)).trans h3
 ·exact (hb.cell (by show w.heap.size + 1 < _; omega)).trans h4
 ·exact (hb.cell (by show w.heap.size + 1 < _; omega)).trans h5
theorem rdm_start (w : World) (v : Value) (x y : Int) (b : Bool) (T T' : TypeId) : RDm w v x y b ((w.alloc (.cells #[v] T)).alloc (.cells #[.int .i64 x, .int .i64 y, .bool b] T')) := by
 have e0 : (w.alloc (.cells #[v] T)).heap.size = w.heap.size + 1 := by simp
 have h1 := heap_alloc_new (w.alloc (.cells #[v] T)) (.cells #[.int .i64 x, .int .i64 y, .bool b] T')
 rw [e0] at h1
 have h0 : ((w.alloc (.cells #[v] T)).alloc (.cells #[.int .i64 x, .int .i64 y, .bool b] T')).heap[w.heap.size]? = some (.cells #[v] T) :=
  ((below_alloc1 (w.alloc (.cells #[v] T)) _).block w.heap.size (by rw [e0]; omega)).trans (heap_alloc_new w _)
 exact ⟨below_alloc2 w _ _, by simp, (cellAt h0 0).1.trans rfl, (cellAt h1 0).1.trans rfl, (cellAt h1 1).1.trans rfl, (cellAt h1 2).1.trans rfl⟩
def RE2 (w : World) (v : Value) (x y : Int) (b : Bool) (p : Nat) (A : Option Addr) (n cap : Nat) (xs : List Int) (W : World) : Prop :=
 RDm w v x y b W ∧ W.heap[p]? = some (.cells #[.slice A n cap] 26) ∧ W.ownsRow (w.heap.size + 2) 3 1 (.slice A n cap) n (ints xs)
variable {p n cap : Nat} {A : Option Addr} {xs : List Int}
theorem RE2.on (h : RE2 w v x y b p A n cap xs W) (hb : Below W.heap.size W W') : RE2 w v x y b p A n cap xs W' :=
 ⟨h.1.on hb, (hb.block p (Array.getElem?_eq_some_iff.1 h.2.1).1).trans h.2.1, own_below h.2.2 hb (Nat.le_refl _)⟩
theorem re2_start (h : RDm w v x y b W) (ho : W.ownsRow (w.heap.size + 2) 3 1 (.slice A n cap) n (ints xs)) : RE2 w v x y b W.heap.size A n cap xs (W.alloc (.cells #[.slice A n cap] 26)) :=
 ⟨h.on (below_alloc1 W _), heap_alloc_new W _, own_below ho (below_alloc1 W _) (Nat.le_refl _)⟩
theorem RE2.reads (h : RE2 w v x y b p A n cap xs W) : W.cell? ⟨w.heap.size, 0, none⟩ = some v ∧ W.cell? ⟨w.heap.size + 1, 0, none⟩ = some (.int .i64 x) ∧ W.cell? ⟨w.heap.size + 1, 1, none⟩ = some (.int .i64 y) ∧ W.cell? ⟨w.heap.size + 1, 2, none⟩ = some (.bool b) ∧ W.cell? ⟨p, 0, none⟩ = some (.slice A n cap) :=
 ⟨h.1.2.2.1, h.1.2.2.2.1, h.1.2.2.2.2.1, h.1.2.2.2.2.2, (cellAt h.2.1 0).1.trans rfl⟩
end

end Go.Proofs.Ytjfagpmklifjlaa.Prof
