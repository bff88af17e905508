/- SrtC, OrdI, TilN in one text. -/
import Derived.Test.YtmajllgfmclcoaaGreatMc38
import Derived.Test.YtmajllgfmclcoaaGreatMc27
import Derived.Test.YtmajllgfmclcoaaGreatSrt
import Derived.Shelf.SlSortCmp.NoneTotal
import Derived.Test.YtmajllgfmclcoaaGreatMc32

namespace Go.Proofs.YtmajllgfmclcoaaGreat.Srt
set_option linter.unusedVariables false
set_option linter.unusedSimpArgs false
open Go.RowKit Go.Sort Go.Proofs.YtmajllgfmclcoaaGreat.Dom Go.Proofs.YtmajllgfmclcoaaGreat.Dms Go.Proofs.YtmajllgfmclcoaaGreat.Til Go.Joins

theorem gr_of {W W' : World} (h : Drw.Blw W.heap.size W W') : ∃ q os', W' = grow (W.drewN q) os' := by
 refine ⟨W'.drawn - W.drawn, W'.heap.extract W.heap.size W'.heap.size, ?_⟩
 obtain ⟨hb, hd⟩ := h
 have e1 : W'.heap = W.heap ++ W'.heap.extract W.heap.size W'.heap.size := by
  apply Array.ext_getElem?
  intro k
  by_cases hk : k < W.heap.size
  ·rw [Array.getElem?_append_left hk]; exact hb.block k hk
  ·rw [Array.getElem?_append_right (by omega), Array.getElem?_extract]
   by_cases hk2 : k < W'.heap.size
   ·rw [if_pos (by omega), show W.heap.size + (k - W.heap.size) = k by omega]
   ·rw [if_neg (by omega), Array.getElem?_eq_none (by omega)]
 have e2 : W'.drawn = W.drawn + (W'.drawn - W.drawn) := by omega
 obtain ⟨h1, h2, h3, h4, h5⟩ := W'
 have t1 := hb.os
 have t2 := hb.tape
 have t3 := hb.output
 simp only at t1 t2 t3 e1 e2
 subst t1 t2 t3
 unfold grow World.drewN
 simp only [World.mk.injEq]
 exact ⟨e1, trivial, e2, trivial, trivial⟩

abbrev V := { d : Dm // okM d = true }
instance : Inhabited V := ⟨⟨(0, 0, false), by decide +kernel⟩⟩
def enc (d : V) : List Value := [.int .i64 d.1.1, .int .i64 d.1.2.1, .bool d.1.2.2]
def cf (x y : V) : Int := Drw.cmpB (befM x.1 y.1) (befM y.1 x.1)
theorem lt_bef (x y : V) : ltOf cf x y = befM x.1 y.1 := by
 unfold ltOf cf Drw.cmpB
 cases befM x.1 y.1 <;> cases befM y.1 x.1 <;> rfl
theorem swo : SWO (ltOf cf) where
 irrefl x := by rw [lt_bef]; exact befM_irrefl _
 trans x y z h1 h2 := by rw [lt_bef] at *; exact befM_trans h1 h2
 ntrans x y z h1 h2 := by
  rw [lt_bef] at *
  by_cases e1 : x.1 = y.1
  ·rw [e1]; exact h2
  ·by_cases e2 : y.1 = z.1
   ·rw [← e2]; exact h1
   ·have k1 := befM_total x.2 y.2 e1
    have k2 := befM_total y.2 z.2 e2
    rw [h1] at k1
    rw [h2] at k2
    exact befM_asymm (befM_trans k2 k1)
theorem tot (x y : V) (h1 : ltOf cf x y = false) (h2 : ltOf cf y x = false) : x = y := by
 rw [lt_bef] at *
 exact Subtype.ext (befM_same x.2 y.2 h1 h2)
theorem lays (blk off size : Nat) (w : World) : CmpLays Tryz.prog 103 #[] enc 3 cf blk off size w := fun m os dk _ x y => by
 have hx := okM_in x.2
 have hy := okM_in y.2
 refine (Drw.iCompare x.1.1 x.1.2.1 x.1.2.2 y.1.1 y.1.2.1 y.1.2.2 ?_ ?_ ?_ ?_ _).mono ?_
 ·unfold Sm; omega
 ·unfold Sm; omega
 ·unfold Sm; omega
 ·unfold Sm; omega
 ·rintro e w' ⟨rfl, hb⟩
  exact ⟨rfl, gr_of hb⟩

theorem flat_row (d : Array V) : (flatK enc 3 d).toList = rowM (d.toList.map (·.1)) := by
 apply List.ext_getElem?
 intro t
 by_cases ht : t < d.size * 3
 ·have hd : d[t / 3]? = some d[t / 3]! := by rw [getElem!_pos d (t / 3) (by omega)]; exact Array.getElem?_eq_getElem _
  obtain ⟨h0, h1, h2⟩ := rowM_at (d.toList.map (·.1)) (t / 3) d[t / 3]!.1 (by simp [hd])
  have e : (flatK enc 3 d).toList[t]? = some ((enc d[t / 3]!)[t % 3]!) := by
   rw [← get_flatK enc 3 d t ht, getElem!_pos (flatK enc 3 d) t (by simpa using ht)]
   simp
  rw [e]
  have hc : t = t / 3 * 3 ∧ t % 3 = 0 ∨ t = t / 3 * 3 + 1 ∧ t % 3 = 1 ∨ t = t / 3 * 3 + 2 ∧ t % 3 = 2 := by omega
  rcases hc with ⟨e1, e2⟩ | ⟨e1, e2⟩ | ⟨e1, e2⟩
  ·rw [← e1] at h0; rw [h0, e2]; rfl
  ·rw [← e1] at h1; rw [h1, e2]; rfl
  ·rw [← e1] at h2; rw [h2, e2]; rfl
 ·rw [List.getElem?_eq_none (by simpa using ht), List.getElem?_eq_none (by rw [rowM_length]; simp; omega)]
theorem put_take (F cur : Array Value) (h : F.size ≤ cur.size) : (putCells id 0 F cur).toList.take F.size = F.toList := by
 apply List.ext_getElem?
 intro k
 rw [List.getElem?_take]
 by_cases hk : k < F.size
 ·rw [if_pos hk]
  unfold putCells
  simp only [Array.toList_mapIdx, List.getElem?_mapIdx, Array.getElem?_toList]
  rw [Array.getElem?_eq_getElem (by omega : k < cur.size), Array.getElem?_eq_getElem hk]
  simp [hk]
 ·rw [if_neg hk, List.getElem?_eq_none (by simpa using hk)]

set_option maxHeartbeats 1000000 in
theorem sortCall (w : World) (base blk n cap : Nat) (L : List Dm) (hnb : n ≤ 2000000) (hv : ∀ d ∈ L, okM d = true) (hown : w.ownsRow base 43 3 (.slice (some ⟨blk, 0, none⟩) n cap) n (rowM L)) :
  Calls Tryz.prog 102 #[.slice (some ⟨blk, 0, none⟩) n cap, .func (.func 103) #[] #[]] w fun e w' =>
   e = .returned (.tuple #[]) ∧ ∃ M : List Dm, M.Pairwise (fun a b => befM b a = false) ∧ M.Perm L ∧ w'.ownsRow base 43 3 (.slice (some ⟨blk, 0, none⟩) n cap) n (rowM M) ∧ w.grownBy w' (some blk) := by
 have hlen : L.length = n := by have := hown.1; rw [rowM_length] at this; omega
 have hblk := (hown.lt blk rfl).2
 have hD : ∃ D : Array V, D.toList.map (·.1) = L := ⟨(L.pmap Subtype.mk hv).toArray, by simp [List.map_pmap]⟩
 obtain ⟨D, hD⟩ := hD
 have hsz : D.size = n := by rw [← hlen, ← hD]; simp
 have hH : HoldsK enc 3 w blk 0 D := by
  intro j hj
  have hj' : j < n * 3 := by rw [size_flatK, hsz] at hj; exact hj
  rw [Nat.zero_add]
  refine ⟨?_, hown.frozenAt j⟩
  rw [hown.cellAt j hj', ← hD, ← flat_row, getElem!_pos (flatK enc 3 D) j hj]
  simp
 have hn62 : n ≤ cap ∧ cap ≤ maxLen ∧ ∃ cur : Array Value, w.heap[blk]? = some (.cells cur 43 (0, 0)) ∧ cur.size = cap * 3 ∧ base ≤ blk := by
  rcases hown.2 with ⟨h, _⟩ | ⟨g, cap', cur, h, hg, hh, h1, h2, h3, _⟩
  ·cases h
  ·injection h with ha _ hc
   injection ha with ha
   injection ha with hb
   subst hb; subst hc
   exact ⟨h1, h2, cur, hh, h3, hg⟩
 obtain ⟨hnc, hcm, cur, hcur, hcs, hbase⟩ := hn62
 have hbig : D.size < 4611686018427387904 := by omega
 have eg : ∀ args w, (callFunc 103 args).run Tryz.prog w = .ok (.enter 103 args) w := enters_of Tryz.func103 (by kernel_rfl) rfl
 have hcon := AnyQ.slices_SortFunc_total Tryz.sortD 3 Tryz.isAgg43 Tryz.sizeOf43 enc (fun _ => rfl) (fun x v hv => by simp [enc] at hv; rcases hv with rfl | rfl | rfl <;> rfl) cf swo 103 #[] blk 0 cap D w eg (lays blk 0 D.size w) hH hblk hbig tot
 rw [hsz] at hcon
 refine Calls.mono hcon ?_
 rintro e w' ⟨rfl, q, os, rfl⟩
 refine ⟨rfl, (D.toList.mergeSort fun x y => !ltOf cf y x).map (·.1), ?_, ?_, ?_, ?_⟩
 ·have hp := List.pairwise_mergeSort (le := fun x y : V => !ltOf cf y x) (fun a b c h1 h2 => by
   simp only [Bool.not_eq_true'] at *
   exact swo.ntrans _ _ _ h2 h1) (fun a b => by
   simp only [Bool.or_eq_true, Bool.not_eq_true']
   cases h : ltOf cf b a with
   | false => exact .inl rfl
   | true =>
    right
    cases h2 : ltOf cf a b with
    | false => rfl
    | true => have := swo.trans _ _ _ h h2; rw [swo.irrefl] at this; cases this) D.toList
  rw [List.pairwise_map]
  refine hp.imp fun {a b} h => ?_
  simp only [Bool.not_eq_true'] at h
  rw [← lt_bef]; exact h
 ·have := (List.mergeSort_perm D.toList fun x y => !ltOf cf y x).map (·.1)
  rwa [hD] at this
 ·have hF := flat_row (D.toList.mergeSort fun x y => !ltOf cf y x).toArray
  have hFs : (flatK enc 3 (D.toList.mergeSort fun x y => !ltOf cf y x).toArray).size = n * 3 := by rw [size_flatK]; simp [hsz]
  refine ⟨?_, .inr ⟨blk, cap, putCells id 0 (flatK enc 3 (D.toList.mergeSort fun x y => !ltOf cf y x).toArray) cur, rfl, hbase, ?_, hnc, hcm, ?_, ?_⟩⟩
  ·rw [rowM_length]; simp [hsz]
  ·unfold sortWorldK putRowK putRow mapBlock grow Sort.ahead
   simp only
   rw [Array.getElem?_append_left (by simpa using hblk), Array.getElem?_modify, if_pos rfl, hcur]
   rfl
  ·unfold putCells; simpa using hcs
  ·rw [← hFs, put_take _ _ (by rw [hFs, hcs]; exact Nat.mul_le_mul_right 3 hnc), hF]
 ·refine ⟨rfl, rfl, rfl, ?_, fun k hk hne => ?_⟩
  ·unfold sortWorldK putRowK putRow mapBlock grow Sort.ahead; simp
  ·unfold sortWorldK putRowK putRow mapBlock grow Sort.ahead
   simp only
   rw [Array.getElem?_append_left (by simpa using hk), Array.getElem?_modify, if_neg (fun e => hne (by rw [e]))]
end Go.Proofs.YtmajllgfmclcoaaGreat.Srt

namespace Go.Proofs.YtmajllgfmclcoaaGreat.Til
set_option linter.unusedVariables false
set_option linter.unusedSimpArgs false
open Go.RowKit Go.Proofs.YtmajllgfmclcoaaGreat.Dom Go.Proofs.YtmajllgfmclcoaaGreat.Dms Go.Joins
open Go.Proofs.YtmajllgfmclcoaaGreat.Reg hiding Yes add_none

def vld (L : List Dm) (j : Nat) : List Dm := (L.take j).filter okM
theorem vld_yes {L : List Dm} {j : Nat} (hj : j < L.length) (h : okM L[j] = true) : vld L (j + 1) = vld L j ++ [L[j]] := by
 unfold vld; rw [List.take_succ_eq_append_getElem hj, List.filter_append]; simp [h]
theorem vld_no {L : List Dm} {j : Nat} (hj : j < L.length) (h : okM L[j] = false) : vld L (j + 1) = vld L j := by
 unfold vld; rw [List.take_succ_eq_append_getElem hj, List.filter_append]; simp [h]
theorem vld_length (L : List Dm) (j : Nat) : (vld L j).length ≤ j := by
 unfold vld; exact Nat.le_trans (List.length_filter_le _ _) (by rw [List.length_take]; omega)

set_option maxRecDepth 100000 in
set_option maxHeartbeats 2000000 in
theorem inOrder (w : World) (A : Option Addr) (n cap B : Nat) (L : List Dm) (hL : L.length = n) (hn : (n : Int) ≤ 1048576) (hf : Fits L) (h : RowM w B A L) (hB : B ≤ w.heap.size) :
  Calls Tryz.prog 91 #[.slice A n cap] w (DmPost (sortM L) (sortM L).length w) := by
 obtain ⟨i0, hi, hz0, hz1, hz2⟩ := info_parts domInfo
 obtain ⟨b0, off, h1, h2⟩ := h.at
 have HA := Lib.hid (fun hp => h1 hp)
 have HC := Lib.hid h2
 have HL := Lib.hid hL
 have HF := Lib.hid hf
 have HB := Lib.hid hB
 clear h h1 h2 hL hf hB
 go_enter Tryz.func91, Tryz.ntmps91
 go_wp2_with (first
  | (at_make; refine wpList_make_own _ rfl _ _ 28 rfl w.heap.size 43 i0 (.agg #[.int .i64 0, .int .i64 0, .bool false]) 3 Tryz.underlying28 hi hz0 hz1 .i64 .i64 (n : Int) n rfl rfl rfl (by rw [hz2]; omega) (by unfold maxLen; omega) (Nat.le_refl _) ?_; intro w1 hown1 hg1))
 have hb1 : Below w.heap.size w w1 := (Below.refl _ _).grown hg1 (by omega) (by simp)
 have HO := Lib.hid hown1
 clear hown1 hg1
 go_loopw [3, 11] (fun v i wr => ∃ j k : Nat, j ≤ n ∧ i = .int .i64 j ∧ v = .slice (some ⟨w.heap.size, 0, none⟩) k n ∧ k = (vld L j).length ∧ wr.ownsRow w.heap.size 43 3 (.slice (some ⟨w.heap.size, 0, none⟩) k n) k (rowM (vld L j)) ∧ Below w.heap.size w wr) (fun _ i _ => n - (intOf i).toNat)
 case atStart => exact ⟨0, 0, Nat.zero_le _, rfl, rfl, by simp [vld], by simpa [vld, rowM] using HO.out, hb1⟩
 case round =>
  clear HO hb1
  obtain ⟨j, k, hj, rfl, rfl, hk, hown, hb⟩ := hrel
  have hbs := hb.size
  by_cases hlt : j < n
  ·have hjL : j < L.length := by have := HL.out; omega
   obtain ⟨rfl, hbB⟩ := HA.out (by omega)
   obtain ⟨c0, c1, c2⟩ := HC.out j hjL
   have hbw : b0 < w.heap.size := by have := HB.out; omega
   have c0 := (hb.cell (p := ⟨b0, off + j * 3, none⟩) hbw).trans c0
   have c1 := (hb.cell (p := ⟨b0, off + j * 3 + 1, none⟩) hbw).trans c1
   have c2 := (hb.cell (p := ⟨b0, off + j * 3 + 2, none⟩) hbw).trans c2
   obtain ⟨f1, f2⟩ := HF.out L[j] (List.getElem_mem hjL)
   have HY := Lib.hid (fun h => vld_yes (L := L) hjL h)
   have HN := Lib.hid (fun h => vld_no (L := L) hjL h)
   generalize L[j] = d at c0 c1 c2 f1 f2 HY HN
   obtain ⟨x, y, b⟩ := d
   simp only [okM] at c0 c1 c2 f1 f2 HY HN
   have HD := Lib.hid (fun W => iDominoOk x y b f1 f2 W)
   generalize domB x y b = p at HD HY HN
   have hkj : k ≤ j := by rw [hk]; exact vld_length L j
   have HK := Lib.hid hk
   have HOwn := Lib.hid hown
   have HBw := Lib.hid hb
   clear f1 f2 hk hown hb
   go_wp2_with fail
   refine (HD.out _).mono ?_
   rintro e w2 ⟨rfl, hb2⟩
   obtain ⟨hE, K1⟩ := bx3 x y b wr w2 hb2
   have hown2 := Reg.own_below HOwn.out hE (Nat.le_refl _)
   have hB2 := HBw.out.trans (hE.mono hbs)
   have hs2 := hE.size
   clear hb2 HOwn HBw HD hE
   cases p with
   | false =>
    have HE := Lib.hid (HN.out (by first | rfl | trivial))
    have HO2 := Lib.hid hown2
    clear hown2 HY HN K1 c0 c1 c2
    go_wp2
    go_roundw
    case rel => exact ⟨j + 1, k, by omega, by go_num, rfl, by rw [HE.out]; exact HK.out, by rw [HE.out]; exact HO2.out, hB2⟩
    case measure => (simp [intOf] <;> omega)
   | true =>
    have HE := Lib.hid (HY.out (by first | rfl | trivial))
    have d0 := K1.c0
    have d1 := K1.c1
    have d2 := K1.c2
    have HO2 := Lib.hid hown2
    clear hown2 HY HN K1 c0 c1 c2
    go_wp2_with (first
     | (at_builtin; refine wpList_append_fits _ rfl _ _ 28 rfl w.heap.size 43 i0 3 Tryz.underlying28 hi hz1 w.heap.size k n (rowM (vld L j)) (by rfl) (HO2.out.alloc _) ⟨w2.heap.size, 0, none⟩ 1 1 [.int .i64 x, .int .i64 y, .bool b] (by rfl) rfl (World.news_of_block (cs := #[.int .i64 x, .int .i64 y, .bool b]) (t := 43) (fr := (0, 0)) (heap_alloc_new w2 _)) (by simp [Value.oneCell']) (by omega) ?_; intro w3 hown3 hgrow))
    have hb3 : Below w.heap.size w w3 := (hB2.alloc (by omega) _).grown hgrow (by simp; omega) (fun g hg => by have hg2 : w.heap.size = g := by { injection hg }; omega)
    have R := Lib.hid (show w3.ownsRow w.heap.size 43 3 (.slice (some ⟨w.heap.size, 0, none⟩) (k + 1) n) (k + 1) (rowM (vld L (j + 1))) by
     rw [HE.out, rowM_snoc]; exact hown3)
    clear hown3 hgrow
    go_wp2
    go_roundw
    case rel => exact ⟨j + 1, k + 1, by omega, by go_num, by go_num, by rw [HE.out, List.length_append, ← HK.out]; rfl, R.out, hb3⟩
    case measure => (simp [intOf] <;> omega)
  ·obtain rfl : j = n := by omega
   have hkj : k ≤ j := by rw [hk]; exact vld_length L j
   have hvl : vld L j = L.filter okM := by unfold vld; rw [← HL.out, List.take_length]
   have HSo := Lib.hid (Srt.sortCall wr w.heap.size w.heap.size k j (vld L j) (by omega) (fun d hd => by rw [hvl] at hd; exact (List.mem_filter.1 hd).2) hown)
   have HV := Lib.hid hvl
   have HK := Lib.hid hk
   have HBw := Lib.hid hb
   clear hvl hk hown hb
   go_wp2_with fail
   refine HSo.out.mono ?_
   rintro e w2 ⟨rfl, M, hs, hp, hown2, hg2⟩
   have hb2 := HBw.out.grown hg2 hbs (fun g hg => by injection hg with hg; omega)
   have hml : M.length = k := by rw [hp.length_eq]; exact HK.out.symm
   have HCo := Lib.hid (Cmp.compactCall w2 w.heap.size w.heap.size k j M (by omega) hown2)
   have HE := Lib.hid (show Cmp.cmpT M k = sortM L by rw [← hml]; exact Cmp.cmpT_sort hs (by rw [← HV.out]; exact hp))
   clear HSo hown2 hg2 hs hp hml HBw
   go_wp2_with fail
   refine HCo.out.mono ?_
   rintro e w3 ⟨m, rfl, hm, hown3, hg3⟩
   have hb3 := hb2.grown hg3 hb2.size (fun g hg => by injection hg with hg; omega)
   rw [HE.out] at hm hown3
   have HO3 := Lib.hid hown3
   have HM := Lib.hid hm
   clear hown3 hm hg3 hb2 HCo
   go_wp2
   go_ret
   rw [← HM.out]
   refine ⟨_, _, rfl, ?_, HO3.out, hb3⟩
   rcases HO3.out.2 with ⟨h, _⟩ | ⟨g', cap', cur, h, hg, hh, h1, _⟩
   ·cases h
   ·injection h with _ _ hc
    subst hc; exact h1

set_option maxHeartbeats 1000000 in
theorem iSortDominoes (w : World) (A : Option Addr) (n cap B : Nat) (L : List Dm) (hL : L.length = n) (hn : (n : Int) ≤ 1048576) (hf : Fits L) (h : RowM w B A L) (hB : B ≤ w.heap.size) :
  Calls Tryz.prog 71 #[.slice A n cap] w (DmPost (sortM L) (sortM L).length w) := by
 have HO := Lib.hid (inOrder w A n cap B L hL hn hf h hB)
 generalize sortM L = S at HO ⊢
 clear hL hn hf h hB
 go_enter Tryz.func71, Tryz.ntmps71
 go_wp2_with fail
 refine HO.out.mono ?_
 rintro e w1 ⟨A1, cap1, rfl, hc, hown, hb⟩
 have H := Lib.hid hown
 clear hown HO
 go_wp2
 go_ret
 exact ⟨A1, cap1, rfl, hc, H.out, hb⟩
end Go.Proofs.YtmajllgfmclcoaaGreat.Til

namespace Go.Proofs.YtmajllgfmclcoaaGreat.Til
set_option linter.unusedVariables false
set_option linter.unusedSimpArgs false
open Go.RowKit Go.Proofs.YtmajllgfmclcoaaGreat.Dms Go.Joins
open Go.Proofs.YtmajllgfmclcoaaGreat.Reg hiding Yes add_none

def by3 (m : Nat) : Bool := decide (((m : Nat) : Int) % 3 = 0)
def mkM (k j : Nat) : Dm := (((k + 3 * j : Nat) : Int), ((k + 3 * j + 1 : Nat) : Int), by3 (k + 3 * j + 2))
def marksM (k n : Nat) : List Dm := (List.range n).map (mkM k)
theorem marksM_length (k n : Nat) : (marksM k n).length = n := by unfold marksM; simp
theorem marksM_at (k n j : Nat) (h : j < n) : (marksM k n)[j]? = some (mkM k j) := by unfold marksM; simp [List.getElem?_range h]
theorem marksM_step (k j n : Nat) (L : List Dm) (hL : L.length = n) (hj : j < n) :
  (((rowM (marksM k j ++ L.drop j)).set (j * 3) (.int .i64 ((k + 3 * j : Nat) : Int))).set (j * 3 + 1) (.int .i64 ((k + 3 * j + 1 : Nat) : Int))).set (j * 3 + 2) (.bool (by3 (k + 3 * j + 2))) = rowM (marksM k (j + 1) ++ L.drop (j + 1)) := by
 rw [List.drop_eq_getElem_cons (by omega)]
 have h := rowM_put (marksM k j) L[j] (mkM k j) (L.drop (j + 1)) j (marksM_length k j)
 unfold mkM at h
 simp only at h
 rw [h]
 congr 1
 unfold marksM
 rw [List.range_succ, List.map_append, List.append_assoc]
 rfl

set_option maxRecDepth 100000 in
set_option maxHeartbeats 1000000 in
theorem markDoms (w : World) (base hi k n cap : Nat) (A : Option Addr) (L : List Dm) (hn : ((k + 3 * n : Nat) : Int) ≤ 10000000) (hr : RowIn w base hi 43 3 (.slice A n cap) n (rowM L)) :
  Calls Tryz.prog 14 #[.slice A n cap, .int .i64 (k : Int)] w fun e w' => e = .returned (.int .i64 ((k + 3 * n : Nat) : Int)) ∧ RowIn w' base hi 43 3 (.slice A n cap) n (rowM (marksM k n)) ∧ Apart base hi w w' := by
 have hx : L.length = n := by have := hr.1.1; rw [rowM_length] at this; omega
 have HX := Lib.hid hx
 have HN := Lib.hid hn
 have HH := Lib.hid hr.2
 have HO := Lib.hid hr.1
 clear hx hr hn
 go_enter Tryz.func14, Tryz.ntmps14
 go_wp2_with fail
 go_loopw [1, 5] (fun m i wr => ∃ j : Nat, j ≤ n ∧ i = .int .i64 j ∧ m = .int .i64 ((k + 3 * j : Nat) : Int) ∧ wr.ownsRow base 43 3 (.slice A n cap) n (rowM (marksM k j ++ L.drop j)) ∧ Apart base hi w wr) (fun _ i _ => n - (intOf i).toNat)
 case atStart => exact ⟨0, Nat.zero_le _, rfl, rfl, by simpa [marksM] using HO.out, Apart.refl _ _ _⟩
 case round =>
  obtain ⟨j, hj, rfl, rfl, hown, hb⟩ := hrel
  have hm : ((k + 3 * j : Nat) : Int) ≤ 10000000 := by have := HN.out; omega
  by_cases hlt : j < n
  ·obtain ⟨g, c, hv, hg1, hg2⟩ := hown.form (by omega)
   injection hv with hA hn1 hc1
   subst hA
   subst hc1
   have hu : ∀ m, m < n * 3 → ∃ u, wr.cell? ⟨g, m, none⟩ = some u := fun m hm => by
    have hlen := hown.1
    rw [hown.cellAt m (by omega)]; exact ⟨_, List.getElem?_eq_getElem (by omega)⟩
   obtain ⟨u0, hu0⟩ := hu (j * 3) (by omega)
   obtain ⟨u1, hu1⟩ := hu (j * 3 + 1) (by omega)
   obtain ⟨u2, hu2⟩ := hu (j * 3 + 2) (by omega)
   have hf0 := hown.frozenAt (j * 3)
   have hf1 := hown.frozenAt (j * 3 + 1)
   have hf2 := hown.frozenAt (j * 3 + 2)
   obtain ⟨hst, _⟩ := hown.stored (j * 3) (.int .i64 ((k + 3 * j : Nat) : Int))
   obtain ⟨hst, _⟩ := hst.stored (j * 3 + 1) (.int .i64 ((k + 3 * j + 1 : Nat) : Int))
   obtain ⟨hst, _⟩ := hst.stored (j * 3 + 2) (.bool (by3 (k + 3 * j + 2)))
   rw [marksM_step k j n L HX.out hlt] at hst
   have hb3 := ((hb.setCell (p := ⟨g, j * 3, none⟩) hg1 (HH.out g rfl) (.int .i64 ((k + 3 * j : Nat) : Int))).setCell (p := ⟨g, j * 3 + 1, none⟩) hg1 (HH.out g rfl) (.int .i64 ((k + 3 * j + 1 : Nat) : Int))).setCell (p := ⟨g, j * 3 + 2, none⟩) hg1 (HH.out g rfl) (.bool (by3 (k + 3 * j + 2)))
   have hk2 : ((k + 3 * (j + 1) : Nat) : Int) = ((k + 3 * j : Nat) : Int) + 3 := by omega
   have e1 : ((k + 3 * j + 1 : Nat) : Int) = ((k + 3 * j : Nat) : Int) + 1 := by omega
   have e2 : by3 (k + 3 * j + 2) = ((((k + 3 * j : Nat) : Int) + 1 + 1) % 3 == 0) := by unfold by3; rw [Bool.eq_iff_iff]; simp only [decide_eq_true_eq, beq_iff_eq]; omega
   rw [e2, e1] at hst hb3
   have R := Lib.hid hst
   have HB := Lib.hid hb3
   have HK2 := Lib.hid hk2
   have hm0 : 0 ≤ ((k + 3 * j : Nat) : Int) := by omega
   have hnb : (n : Int) ≤ 10000000 := by have := HN.out; omega
   generalize ((k + 3 * j : Nat) : Int) = m at hm R HB HK2 hm0
   clear hown hst hb3 hb hu hk2 e1 e2
   go_wp2
   go_roundw
   case rel => exact ⟨j + 1, by omega, by go_num, by rw [HK2.out]; go_num, R.out, HB.out⟩
   case measure => (simp [intOf] <;> omega)
  ·obtain rfl : j = n := by omega
   have R := Lib.hid (show wr.ownsRow base 43 3 (.slice A j cap) j (rowM (marksM k j)) by
    have e : marksM k j ++ L.drop j = marksM k j := by rw [List.drop_eq_nil_of_le (by rw [HX.out]; omega), List.append_nil]
    rw [e] at hown; exact hown)
   clear hown
   go_wp2
   go_ret
   exact ⟨by go_num, ⟨R.out, HH.out⟩, hb⟩
set_option maxRecDepth 100000 in
set_option maxHeartbeats 1000000 in
theorem heldDoms (w : World) (k n cap B : Nat) (A : Option Addr) (hn : ((k + 3 * n : Nat) : Int) ≤ 10000000) (hr : RowM w B A (marksM k n)) :
  Calls Tryz.prog 15 #[.slice A n cap, .int .i64 (k : Int)] w fun e w' => e = .returned (.int .i64 ((k + 3 * n : Nat) : Int)) ∧ w' = w := by
 obtain ⟨b, off, hA, hc⟩ := hr
 have HA := Lib.hid hA
 have HC := Lib.hid hc
 have HN := Lib.hid hn
 clear hA hc hn
 go_enter Tryz.func15, Tryz.ntmps15
 go_wp2_with fail
 go_loopw [1, 5] (fun m i wr => ∃ j : Nat, j ≤ n ∧ i = .int .i64 j ∧ m = .int .i64 ((k + 3 * j : Nat) : Int) ∧ wr = w) (fun _ i _ => n - (intOf i).toNat)
 case atStart => exact ⟨0, Nat.zero_le _, rfl, rfl, rfl⟩
 case round =>
  obtain ⟨j, hj, rfl, rfl, rfl⟩ := hrel
  have hm : ((k + 3 * j : Nat) : Int) ≤ 10000000 := by have := HN.out; omega
  by_cases hlt : j < n
  ·obtain ⟨rfl, hbw⟩ := HA.out (by rw [marksM_length]; omega)
   obtain ⟨c0, c1, c2⟩ := HC.out j _ (marksM_at k n j hlt)
   unfold mkM at c0 c1 c2
   simp only at c0 c1 c2
   have HK2 := Lib.hid (show ((k + 3 * (j + 1) : Nat) : Int) = ((k + 3 * j : Nat) : Int) + 3 by omega)
   have e1 : ((k + 3 * j + 1 : Nat) : Int) = ((k + 3 * j : Nat) : Int) + 1 := by omega
   have e2 : by3 (k + 3 * j + 2) = ((((k + 3 * j : Nat) : Int) + 1 + 1) % 3 == 0) := by unfold by3; rw [Bool.eq_iff_iff]; simp only [decide_eq_true_eq, beq_iff_eq]; omega
   rw [e1] at c1
   rw [e2] at c2
   have hm0 : 0 ≤ ((k + 3 * j : Nat) : Int) := by omega
   have hnb : (n : Int) ≤ 10000000 := by have := HN.out; omega
   generalize ((k + 3 * j : Nat) : Int) = m at hm HK2 hm0 c0 c1 c2
   have q0 : (m != m) = false := by simp
   have q1 : (m + 1 != m + 1) = false := by simp
   have q2 : (((m + 1 + 1) % 3 == 0) != ((m + 1 + 1) % 3 == 0)) = false := by simp
   clear e1 e2
   go_wp2
   go_roundw
   case rel => exact ⟨j + 1, by omega, by go_num, by rw [HK2.out]; go_num, trivial⟩
   case measure => (simp [intOf] <;> omega)
  ·obtain rfl : j = n := by omega
   go_wp2
   go_ret
   exact ⟨by go_num, rfl⟩
theorem markDomsN (w : World) (base hi k n cap : Nat) (A : Option Addr) (L : List Dm) (k0 m : Int) (hk : k0 = (k : Int)) (hm : m = ((k + 3 * n : Nat) : Int)) (hn : m ≤ 10000000) (hr : RowIn w base hi 43 3 (.slice A n cap) n (rowM L)) :
  Calls Tryz.prog 14 #[.slice A n cap, .int .i64 k0] w fun e w' => e = .returned (.int .i64 m) ∧ RowIn w' base hi 43 3 (.slice A n cap) n (rowM (marksM k n)) ∧ Apart base hi w w' := by
 subst hm; subst hk
 exact markDoms w base hi k n cap A L hn hr
theorem heldDomsN (w : World) (k n cap B : Nat) (A : Option Addr) (k0 m : Int) (hk : k0 = (k : Int)) (hm : m = ((k + 3 * n : Nat) : Int)) (hn : m ≤ 10000000) (hr : RowM w B A (marksM k n)) :
  Calls Tryz.prog 15 #[.slice A n cap, .int .i64 k0] w fun e w' => e = .returned (.int .i64 m) ∧ w' = w := by
 subst hm; subst hk
 exact heldDoms w k n cap B A hn hr
end Go.Proofs.YtmajllgfmclcoaaGreat.Til
