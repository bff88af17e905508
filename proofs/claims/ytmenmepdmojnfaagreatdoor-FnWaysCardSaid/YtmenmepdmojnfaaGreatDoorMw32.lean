/- IWd, WyN, RegL2, SrtN, IWn, WyW in one text. -/
import Derived.Test.YtmenmepdmojnfaaGreatDoorMw31
import Derived.Test.YtmenmepdmojnfaaGreatDoorMw24
import Derived.Test.YtmenmepdmojnfaaGreatDoorMw18
import Derived.Lib.AppendZeros
import Derived.Test.YtmenmepdmojnfaaGreatDoorMw05
import Derived.Test.YtmenmepdmojnfaaGreatDoorMw17
import Derived.Test.YtmenmepdmojnfaaGreatDoorSrti
import Derived.Test.YtmenmepdmojnfaaGreatDoorMw30
import Derived.BigQuiet
import Derived.Deep.QuietTactic

namespace Go.Proofs.YtmenmepdmojnfaaGreatDoor.Wg
set_option linter.unusedVariables false
set_option linter.unusedSimpArgs false
set_option maxRecDepth 100000
open Go.RowKit Go.Proofs.YtmenmepdmojnfaaGreatDoor.Dom Go.Proofs.YtmenmepdmojnfaaGreatDoor.Dms Go.Proofs.YtmenmepdmojnfaaGreatDoor.Til Go.Proofs.YtmenmepdmojnfaaGreatDoor.Dss Go.Proofs.YtmenmepdmojnfaaGreatDoor.Sets Go.Joins
open Go.Proofs.YtmenmepdmojnfaaGreatDoor.Lst (halfR_le listR listR_small listR_half iListTilings idxR)
open Go.Proofs.YtmenmepdmojnfaaGreatDoor.Ext (SSP halfR)
open Go.Proofs.YtmenmepdmojnfaaGreatDoor.Reg hiding add_none RC rc_start

set_option maxHeartbeats 4000000 in
theorem iFlipDistance (w : World) (A : Option Addr) (n cap B : Nat) (xs : List Int) (hx : xs.length = n) (hn : (n : Int) ≤ 9223372036854775807) (hrow : RowB w B A xs) (hB : B ≤ w.heap.size) (hT : Tab w)
  (A1 : Option Addr) (n1 cap1 B1 : Nat) (L : List Dm) (hL : L.length = n1) (hn1 : (n1 : Int) ≤ 1048576) (hf1 : Fits L) (h1 : RowM w B1 A1 L) (hB1 : B1 ≤ w.heap.size)
  (A2 : Option Addr) (n2 cap2 B2 : Nat) (M : List Dm) (hM : M.length = n2) (hn2 : (n2 : Int) ≤ 1048576) (hf2 : Fits M) (h2 : RowM w B2 A2 M) (hB2 : B2 ≤ w.heap.size) :
  Calls Tryz.prog 10 #[.agg #[.slice A n cap], .slice A1 n1 cap1, .slice A2 n2 cap2] w (DisP (listR xs) L M w) := by
 have HLs := Lib.hid (fun W (hb : Below w.heap.size w W) => iListTilings W A n cap B xs hx hn (hrow.below hb hB) (by have := hb.size; omega) (hT.on hb (Nat.le_refl _)))
 have HS := Lib.hid (below_alloc1 w (.cells #[.slice A n cap] 26))
 have HR := Lib.hid (Rg.new w (.slice A n cap))
 have hsm := listR_small xs
 have hHf := listR_half (xs := xs)
 have hhf := halfR_le xs
 have hgd := list_gd xs
 unfold SSP at HLs
 generalize listR xs = T at HLs hsm hHf hgd ⊢
 generalize halfR xs = h at HLs hHf hhf
 have q1 := idx_two T L
 have q2 := idx_two T M
 obtain ⟨m, hm⟩ : ∃ m, T.length = m := ⟨_, rfl⟩
 have HM := Lib.hid hm
 rw [hm] at HLs hsm
 have HF1 := Lib.hid (fun W (hb : Below w.heap.size w W) A' c' B' (hr : RowSS W B' A' m h T) (hB' : B' ≤ W.heap.size) => iFind W A' m c' B' h T hm hsm hhf hHf hr hB' A1 n1 cap1 B1 L hL (by omega) (h1.below hb hB1) (by have := hb.size; omega))
 have HF2 := Lib.hid (fun W (hb : Below w.heap.size w W) A' c' B' (hr : RowSS W B' A' m h T) (hB' : B' ≤ W.heap.size) => iFind W A' m c' B' h T hm hsm hhf hHf hr hB' A2 n2 cap2 B2 M hM (by omega) (h2.below hb hB2) (by have := hb.size; omega))
 have HDs := Lib.hid (fun W A' c' B' (hr : RowSS W B' A' m h T) (hB' : B' ≤ W.heap.size) st (hst : st < T.length) => iDistances W A' m c' B' h T hm hsm hhf hHf hgd hr hB' st hst)
 have HSy := Lib.hid hgd.sy
 unfold DsP at HDs
 clear hx hn hrow hB hT hL hn1 hf1 h1 hB1 hM hn2 hf2 h2 hB2 hm hHf hgd
 go_enter Tryz.func10, Tryz.ntmps10
 go_wp2_with fail
 generalize w.alloc (.cells #[.slice A n cap] 26) = W0 at HS HR ⊢
 have c0 := HR.out.c0
 refine (HLs.out _ HS.out).mono ?_
 rintro e w1 ⟨A3, c3, rfl, hss, hb1⟩
 have B1 := Lib.hid (HS.out.trans (hb1.mono HS.out.size))
 have HSS := Lib.hid (ss_row hss)
 clear hss hb1 HS HR c0 HLs
 go_wp2_with fail
 refine (HF1.out _ B1.out _ _ _ HSS.out (Nat.le_refl _)).mono ?_
 rintro e w2 ⟨rfl, hb2⟩
 have B2 := Lib.hid (B1.out.trans (hb2.mono B1.out.size))
 have HSS2 := Lib.hid (rowSS_up (HSS.out.below HM.out hb2 (Nat.le_refl _)) hb2.size)
 clear hb2 B1 HSS HF1
 go_wp2_with fail
 refine (HF2.out _ B2.out _ _ _ HSS2.out (Nat.le_refl _)).mono ?_
 rintro e w3 ⟨rfl, hb3⟩
 have B3 := Lib.hid (B2.out.trans (hb3.mono B2.out.size))
 have HSS3 := Lib.hid (rowSS_up (HSS2.out.below HM.out hb3 (Nat.le_refl _)) hb3.size)
 clear hb3 B2 HSS2 HF2
 rcases q1 with ⟨i, hi, ei, e1⟩ | ⟨no, e1⟩
 ·rcases q2 with ⟨j, hj, ej, e2⟩ | ⟨no, e2⟩
  ·have HF := Lib.hid (fun d (hd : IsD (Ed (lnk T)) i j d) => show DisR T L M d from .inl ⟨i, j, hi, hj, ei, ej, isD_rev HSy.out hd⟩)
   have hjm : j < m := by rw [← HM.out]; exact hj
   have hjI : (j : Int) < (m : Int) := by omega
   have HDi := Lib.hid (HDs.out w3 A3 c3 w3.heap.size HSS3.out (Nat.le_refl _) i hi)
   have hi0 : ¬ (i : Int) < 0 := by omega
   have hj0 : ¬ (j : Int) < 0 := by omega
   rw [e1, e2]
   clear hi hj ei ej e1 e2 HDs HSS3
   go_wp2_with fail
   refine HDi.out.mono ?_
   rintro e w4 ⟨bd, D, rfl, hnr, hD, _, hb4⟩
   have B4 := Lib.hid (B3.out.trans (hb4.mono B3.out.size))
   have cd := hnr.cell hjm
   have HE := Lib.hid (HF.out _ (hD j))
   clear hnr hD hb4 HDi B3 HF
   generalize D j = d at cd HE
   go_wp2
   go_ret
   exact ⟨d, rfl, HE.out, B4.out⟩
  ·have HF := Lib.hid (dis_no (L := L) (.inr no))
   have hi0 : ¬ (i : Int) < 0 := by omega
   rw [e1, e2]
   clear no e1 e2 ei HDs HSS3
   go_wp2
   go_ret
   exact ⟨-1, rfl, HF.out, B3.out⟩
 ·have HF := Lib.hid (dis_no (M := M) (.inl no))
  rw [e1]
  generalize idxR T M = z
  clear no e1 q2 HDs HSS3
  go_wp2
  go_ret
  exact ⟨-1, rfl, HF.out, B3.out⟩
end Go.Proofs.YtmenmepdmojnfaaGreatDoor.Wg

namespace Go.Proofs.YtmenmepdmojnfaaGreatDoor.Wg
set_option linter.unusedVariables false
set_option linter.unusedSimpArgs false
set_option maxRecDepth 100000
open Go.RowKit Go.Proofs.YtmenmepdmojnfaaGreatDoor.Dms Go.Joins
open Go.Proofs.YtmenmepdmojnfaaGreatDoor.Lst (halfR_le listR listR_small listR_half sListTilings idxR idx_at idx_end sIndexOf)
open Go.Proofs.YtmenmepdmojnfaaGreatDoor.Ext (SSP halfR allR allR_ok allR_not)
open Go.Proofs.YtmenmepdmojnfaaGreatDoor.Lis (append_any)
open Go.Proofs.YtmenmepdmojnfaaGreatDoor.Reg hiding add_none RC rc_start

def NbR (T : List (List Dm)) (L : List Dm) (s : List Nat) : Prop := (∃ (k : Nat) (hk : k < T.length), T[k] = L ∧ s.Perm (lnk T k) ∧ s.Pairwise (· ≤ ·)) ∨ (L ∉ T ∧ s = [])
def NbRP (T : List (List Dm)) (L : List Dm) (w : World) (e : Ending) (w' : World) : Prop := ∃ (s : List Nat) (A : Option Addr) (c : Nat), e = .returned (.slice A s.length c) ∧ w'.ownsRow w.heap.size 3 1 (.slice A s.length c) s.length (natV s) ∧ NbR T L s ∧ Below w.heap.size w w'
end Go.Proofs.YtmenmepdmojnfaaGreatDoor.Wg

namespace Go.Proofs.YtmenmepdmojnfaaGreatDoor.Reg
set_option linter.unusedVariables false
open Go.RowKit Go.Joins

theorem RowIn.belowB {W W' : World} {lo hi B e size n : Nat} {v : Value} {xs : List Value} (h : RowIn W lo hi e size v n xs) (hb : Below B W W') (hB : hi ≤ B) : RowIn W' lo hi e size v n xs := by
 refine ⟨⟨h.1.1, ?_⟩, h.2⟩
 rcases h.1.2 with hn | ⟨g, cap, cur, rfl, hg, hgg, rest⟩
 ·exact .inl hn
 ·refine .inr ⟨g, cap, cur, rfl, hg, ?_, rest⟩
  have h2 := h.2 g rfl
  rw [hb.block g (by omega)]
  exact hgg
section
variable {w : World} {v : Value} {p : Nat} {va : Value} {lx hx n : Nat} {xs : List Value} {lw hw e size : Nat} {vw : Value} {m : Nat} {cs : List Value} {W W' : World}
end
end Go.Proofs.YtmenmepdmojnfaaGreatDoor.Reg

namespace Go.Proofs.YtmenmepdmojnfaaGreatDoor.Wg
set_option linter.unusedVariables false
set_option linter.unusedSimpArgs false
open Go.RowKit Go.Sort Go.Joins

def intN (l : List Nat) : List Int := l.map fun n : Nat => (n : Int)
theorem natV_int (l : List Nat) : natV l = (intN l).map (Value.int .i64) := by unfold natV intN; rw [List.map_map]; rfl
theorem intN_length (l : List Nat) : (intN l).length = l.length := by unfold intN; rw [List.length_map]
theorem intN_back : ∀ (zs : List Int), (∀ z ∈ zs, 0 ≤ z) → ∃ s, intN s = zs := by
 intro zs
 induction zs with
 | nil => intro _; exact ⟨[], rfl⟩
 | cons z zs ih =>
  intro h
  obtain ⟨s, hs⟩ := ih (fun y hy => h y (List.mem_cons_of_mem _ hy))
  have hz := h z List.mem_cons_self
  refine ⟨z.toNat :: s, ?_⟩
  unfold intN at hs ⊢
  rw [List.map_cons, hs]
  congr 1
  omega
theorem perm_int {s l : List Nat} (h : (intN s).Perm (intN l)) : s.Perm l := by
 have := h.map Int.toNat
 unfold intN at this
 simpa [List.map_map, Function.comp_def] using this
theorem put_row (zs : List Int) (n : Nat) (cur : Array Value) (hn : zs.length = n) (h : n ≤ cur.size) : (putCells (Value.int .i64) 0 zs.toArray cur).toList.take n = zs.map (Value.int .i64) := by
 apply List.ext_getElem?
 intro k
 rw [List.getElem?_take, List.getElem?_map]
 by_cases hk : k < n
 ·rw [if_pos hk]
  unfold putCells
  simp only [Array.toList_mapIdx, List.getElem?_mapIdx, Array.getElem?_toList]
  rw [Array.getElem?_eq_getElem (by omega : k < cur.size), List.getElem?_eq_getElem (by omega : k < zs.length)]
  have : k < zs.length := by omega
  simp [this]
 ·rw [if_neg hk, List.getElem?_eq_none (by omega)]; rfl
def SrtP (base n : Nat) (A : Option Addr) (c : Nat) (l : List Nat) (w : World) (e : Ending) (w' : World) : Prop :=
 e = .returned (.tuple #[]) ∧ ∃ s : List Nat, s.Perm l ∧ s.Pairwise (· ≤ ·) ∧ w'.ownsRow base 3 1 (.slice A n c) n (natV s) ∧ Below base w w'
set_option maxHeartbeats 1000000 in
theorem iSortN (w : World) (base n c : Nat) (A : Option Addr) (l : List Nat) (hl : l.length = n) (hn : n ≤ 2000000) (hown : w.ownsRow base 3 1 (.slice A n c) n (natV l)) (hbw : base ≤ w.heap.size) :
  Calls Tryz.prog 51 #[.slice A n c] w (SrtP base n A c l w) := by
 rcases Nat.eq_zero_or_pos n with h0 | h0
 ·subst h0
  have hl0 := List.eq_nil_of_length_eq_zero hl
  subst hl0
  refine Calls.mono (Any.slices_Sort_int_none Tryz.sortI A c w) ?_
  rintro e w' ⟨rfl, rfl⟩
  exact ⟨rfl, [], List.Perm.refl _, List.Pairwise.nil, hown, Below.refl _ _⟩
 ·rcases hown.2 with ⟨_, h⟩ | ⟨blk, cap', cur, hv, hg, hh, h1, h2, h3, h4⟩
  ·have : n = 0 := h
   omega
  ·injection hv with ha _ hc
   subst ha; subst hc
   have hblk := (hown.lt blk rfl).2
   have hH : Holds (Value.int .i64) w blk 0 (intN l).toArray := by
    intro j hj
    have hj' : j < (intN l).length := by simpa using hj
    rw [intN_length] at hj'
    rw [Nat.zero_add]
    refine ⟨?_, hown.frozenAt j⟩
    rw [hown.cellAt j (by omega), natV_int, List.getElem?_map, List.getElem?_eq_getElem (by rw [intN_length]; exact hj')]
    rw [getElem!_pos _ j hj]; simp
   have hcon := Any.slices_Sort_int Tryz.sortI blk 0 c (intN l) w hH hblk (by rw [intN_length]; omega)
   rw [intN_length, hl] at hcon
   refine Calls.mono hcon ?_
   rintro e w' ⟨rfl, q, os, rfl⟩
   have hperm := List.mergeSort_perm (intN l) fun x y => decide (x ≤ y)
   have hsort := List.pairwise_mergeSort (le := fun x y : Int => decide (x ≤ y)) (fun a b c h1 h2 => by simp only [decide_eq_true_eq] at *; omega) (fun a b => by simp only [Bool.or_eq_true, decide_eq_true_eq]; omega) (intN l)
   obtain ⟨s, hs⟩ := intN_back ((intN l).mergeSort fun x y => decide (x ≤ y)) (fun z hz => by
    have := hperm.mem_iff.1 hz
    unfold intN at this
    obtain ⟨k, _, rfl⟩ := List.mem_map.1 this
    omega)
   rw [← hs] at hperm hsort ⊢
   have hsl : s.length = n := by have := hperm.length_eq; rw [intN_length, intN_length] at this; omega
   refine ⟨rfl, s, perm_int hperm, ?_, ⟨by rw [natV_length, hsl, Nat.mul_one], .inr ⟨blk, c, putCells (Value.int .i64) 0 (intN s).toArray cur, rfl, hg, ?_, h1, h2, ?_, ?_⟩⟩, ⟨rfl, rfl, rfl, ?_, fun k hk => ?_⟩⟩
   ·unfold intN at hsort
    rw [List.pairwise_map] at hsort
    refine hsort.imp fun {a b} h => ?_
    simp only [decide_eq_true_eq] at h; omega
   ·unfold putRow mapBlock grow Sort.ahead
    simp only
    rw [Array.getElem?_append_left (by simpa using hblk), Array.getElem?_modify, if_pos rfl, hh]
    rfl
   ·unfold putCells; simpa using h3
   ·rw [Nat.mul_one, put_row (intN s) n cur (by rw [intN_length, hsl]) (by omega), natV_int]
   ·unfold putRow mapBlock grow Sort.ahead; simp
   ·unfold putRow mapBlock grow Sort.ahead
    simp only
    rw [Array.getElem?_append_left (by simp; omega), Array.getElem?_modify, if_neg (by omega)]
end Go.Proofs.YtmenmepdmojnfaaGreatDoor.Wg

namespace Go.Proofs.YtmenmepdmojnfaaGreatDoor.Wg
set_option linter.unusedVariables false
set_option linter.unusedSimpArgs false
set_option maxRecDepth 100000
open Go.RowKit Go.Proofs.YtmenmepdmojnfaaGreatDoor.Base Go.Proofs.YtmenmepdmojnfaaGreatDoor.Dms Go.Proofs.YtmenmepdmojnfaaGreatDoor.Til Go.Proofs.YtmenmepdmojnfaaGreatDoor.Dss Go.Proofs.YtmenmepdmojnfaaGreatDoor.Sets Go.Joins
open Go.Proofs.YtmenmepdmojnfaaGreatDoor.Lst (halfR_le listR listR_small listR_half iListTilings idxR)
open Go.Proofs.YtmenmepdmojnfaaGreatDoor.Ext (SSP halfR)
open Go.Proofs.YtmenmepdmojnfaaGreatDoor.Reg hiding add_none RC rc_start

def plcTo (l : List Ft) (j : Nat) : List Nat := (l.take j).map (·.2)
theorem plcTo_step {l : List Ft} {j : Nat} (h : j < l.length) : plcTo l (j + 1) = plcTo l j ++ [l[j].2] := by
 unfold plcTo
 rw [List.take_succ_eq_append_getElem h, List.map_append]; rfl
theorem plcTo_length {l : List Ft} {j : Nat} (h : j ≤ l.length) : (plcTo l j).length = j := by unfold plcTo; rw [List.length_map, List.length_take]; omega
set_option maxHeartbeats 4000000 in
theorem iFlipNeighbors (w : World) (A : Option Addr) (n cap B : Nat) (xs : List Int) (hx : xs.length = n) (hn : (n : Int) ≤ 9223372036854775807) (hrow : RowB w B A xs) (hB : B ≤ w.heap.size) (hT : Tab w)
  (A1 : Option Addr) (n1 cap1 B1 : Nat) (L : List Dm) (hL : L.length = n1) (hn1 : (n1 : Int) ≤ 1048576) (hf1 : Fits L) (h1 : RowM w B1 A1 L) (hB1 : B1 ≤ w.heap.size) :
  Calls Tryz.prog 18 #[.agg #[.slice A n cap], .slice A1 n1 cap1] w (NbRP (listR xs) L w) := by
 obtain ⟨i0, hi, hz0, hz1, hz2⟩ := info_parts intInfo
 have HLs := Lib.hid (fun W (hb : Below w.heap.size w W) => iListTilings W A n cap B xs hx hn (hrow.below hb hB) (by have := hb.size; omega) (hT.on hb (Nat.le_refl _)))
 have HS := Lib.hid (below_alloc1 w (.cells #[.slice A n cap] 26))
 have HR := Lib.hid (Rg.new w (.slice A n cap))
 have hsm := listR_small xs
 have hHf := listR_half (xs := xs)
 have hhf := halfR_le xs
 have hgd := list_gd xs
 unfold SSP at HLs
 generalize listR xs = T at HLs hsm hHf hgd ⊢
 generalize halfR xs = h at HLs hHf hhf
 have q1 := idx_two T L
 obtain ⟨m, hm⟩ : ∃ m, T.length = m := ⟨_, rfl⟩
 have HM := Lib.hid hm
 rw [hm] at HLs hsm
 have HF1 := Lib.hid (fun W (hb : Below w.heap.size w W) A' c' B' (hr : RowSS W B' A' m h T) (hB' : B' ≤ W.heap.size) => iFind W A' m c' B' h T hm hsm hhf hHf hr hB' A1 n1 cap1 B1 L hL (by omega) (h1.below hb hB1) (by have := hb.size; omega))
 have HFl := Lib.hid (fun W A' c' B' (hr : RowSS W B' A' m h T) (hB' : B' ≤ W.heap.size) k (hk : k < T.length) => iFlips W A' m c' B' h T hm hsm hhf hHf hgd hr hB' k hk)
 have HGm := Lib.hid hgd.lk
 clear hx hn hrow hB hT hL hn1 hf1 h1 hB1 hm hHf hgd
 go_enter Tryz.func18, Tryz.ntmps18
 go_wp2_with fail
 generalize w.alloc (.cells #[.slice A n cap] 26) = W0 at HS HR ⊢
 have c0 := HR.out.c0
 refine (HLs.out _ HS.out).mono ?_
 rintro e w1 ⟨A3, c3, rfl, hss, hb1⟩
 have B1 := Lib.hid (HS.out.trans (hb1.mono HS.out.size))
 have HSS := Lib.hid (ss_row hss)
 clear hss hb1 HS HR c0 HLs
 go_wp2_with fail
 refine (HF1.out _ B1.out _ _ _ HSS.out (Nat.le_refl _)).mono ?_
 rintro e w2 ⟨rfl, hb2⟩
 have B2 := Lib.hid (B1.out.trans (hb2.mono B1.out.size))
 have HSS2 := Lib.hid (rowSS_up (HSS.out.below HM.out hb2 (Nat.le_refl _)) hb2.size)
 clear hb2 B1 HSS HF1
 rcases q1 with ⟨k, hk, ek, e1⟩ | ⟨no, e1⟩
 ·have HFk := Lib.hid (HFl.out w2 A3 c3 w2.heap.size HSS2.out (Nat.le_refl _) k hk)
  have hl := HGm.out k hk
  have hln := lnk_length T k
  obtain ⟨l, hle⟩ : ∃ l, fts T T[k] = l := ⟨_, rfl⟩
  rw [hle] at HFk hl
  have HP := Lib.hid (fun s (hp : s.Perm (plcTo l l.length)) (hs : s.Pairwise (· ≤ ·)) => show NbR T L s from .inl ⟨k, hk, ek, by rw [hl]; unfold plcTo at hp; rwa [List.take_length] at hp, hs⟩)
  have hl20 : l.length ≤ 20000 := by
   have h2 : (lnk T k).length = l.length := by rw [hl, List.length_map]
   have := HM.out
   omega
  have hk0 : ¬ (k : Int) < 0 := by omega
  rw [e1]
  clear hle hl hln ek e1 HFl HGm hk HSS2
  go_wp2_with fail
  refine HFk.out.mono ?_
  rintro e w3 ⟨Af, cf, rfl, hof, hb3⟩
  have B3 := Lib.hid (B2.out.trans (hb3.mono B2.out.size))
  obtain ⟨gf, f1, f2⟩ := rdT_own hof
  have HF1 := Lib.hid f1
  have HF2 := Lib.hid f2
  obtain ⟨nl, hnl⟩ : ∃ nl, l.length = nl := ⟨_, rfl⟩
  have HNl := Lib.hid hnl
  rw [hnl] at hl20 HP ⊢
  clear hof hb3 f1 f2 HFk B2 hnl
  go_wp2_with fail
  go_loopw [7, 21] (fun v i wr => ∃ j : Nat, j ≤ nl ∧ i = .int .i64 j ∧ Hid (wr.ownsRow w3.heap.size 3 1 v j (natV (plcTo l j))) ∧ Hid (Below w3.heap.size w3 wr)) (fun _ i _ => nl - (intOf i).toNat)
  case atStart => exact ⟨0, Nat.zero_le _, rfl, Lib.hid (by simpa [plcTo, natV] using World.ownsRow_nil w3 w3.heap.size 3 1), Lib.hid (Below.refl _ _)⟩
  case round =>
   obtain ⟨j, hj, rfl, HO, HB⟩ := hrel
   by_cases hlt : j < nl
   ·have hjl : j < l.length := by rw [HNl.out]; exact hlt
    obtain ⟨rfl, hgf⟩ := HF1.out (by omega)
    obtain ⟨d0, d1, d2⟩ := HF2.out j hjl
    have e0 := (HB.out.cell (p := ⟨gf, j * 3, none⟩) hgf).trans d0
    have e1 := (HB.out.cell (p := ⟨gf, j * 3 + 1, none⟩) hgf).trans d1
    have e2 := (HB.out.cell (p := ⟨gf, j * 3 + 2, none⟩) hgf).trans d2
    have HSt := Lib.hid (plcTo_step hjl)
    clear d0 d1 d2
    obtain ⟨x, y, v, hxyv⟩ : ∃ x y v, l[j] = ((x, y), v) := ⟨_, _, _, rfl⟩
    rw [hxyv] at e0 e1 e2 HSt
    simp only at e0 e1 e2 HSt
    clear hxyv
    have HLq := Lib.hid (plcTo_length (Nat.le_of_lt hjl))
    have hjI : (j : Int) < (nl : Int) := by omega
    have HBx := Lib.hid (HB.out.alloc HB.out.size (.cells #[.int .i64 x, .int .i64 y, .int .i64 (v : Int)] 69))
    have HOx := Lib.hid (HO.out.alloc (.cells #[.int .i64 x, .int .i64 y, .int .i64 (v : Int)] 69))
    have cb : ∀ o, ((wr.alloc (.cells #[.int .i64 x, .int .i64 y, .int .i64 (v : Int)] 69)).alloc o).heap[wr.heap.size]? = some (.cells #[.int .i64 x, .int .i64 y, .int .i64 (v : Int)] 69) := fun o => by
     rw [Below.heap_alloc _ _ _ (by simp)]; exact heap_alloc_new wr _
    clear hjl cb
    go_upto_region 9 with fail
    have cb2 : (wr.alloc (.cells #[.int .i64 x, .int .i64 y, .int .i64 (v : Int)] 69)).cell? ⟨wr.heap.size, 2, none⟩ = some (.int .i64 (v : Int)) := (cell_of_row _ _ 2 _ _ _ (heap_alloc_new wr _)).trans rfl
    generalize wr.alloc (.cells #[.int .i64 x, .int .i64 y, .int .i64 (v : Int)] 69) = Wb at HBx HOx cb2 ⊢
    generalize wr.heap.size = p at cb2 ⊢
    clear e0 e1 e2 HO HB
    have hbs := HBx.out.size
    go_wp2_with (first
     | (at_builtin; refine wpList_append_own _ rfl _ _ 24 rfl w3.heap.size 3 i0 (.int .i64 0) 1 8 Tryz.underlying24 hi hz0 hz1 hz2 rfl (by decide) _ j (natV (plcTo l j)) rfl (HOx.out.alloc _) ⟨Wb.heap.size, 0, none⟩ 1 1 [.int .i64 (v : Int)] rfl rfl (World.news_of_block (cs := #[.int .i64 (v : Int)]) (t := 3) (fr := (0, 0)) (heap_alloc_new Wb _)) (by simp [Value.oneCell']) (by unfold maxLen; omega) (by omega) (by simp; omega) ?_; intro v2 w6 hown6 hgrow6 _))
    have HO6 := Lib.hid (show w6.ownsRow w3.heap.size 3 1 v2 (j + 1) (natV (plcTo l (j + 1))) by rw [HSt.out, natV_snoc]; exact hown6)
    have HB6 := Lib.hid ((HBx.out.alloc hbs _).grown hgrow6 (by simp; omega) (fun g hg => (HOx.out.lt g hg).1))
    clear hown6 hgrow6 HBx HOx cb2
    go_wp2
    go_roundw
    case rel => exact ⟨j + 1, by omega, by go_num, HO6, HB6⟩
    case measure => (simp [intOf] <;> omega)
   ·obtain rfl : j = nl := by omega
    obtain ⟨A4, c4, rfl⟩ := own_shape HO.out
    have HSr := Lib.hid (iSortN wr w3.heap.size j c4 A4 (plcTo l j) (plcTo_length (by rw [HNl.out]; exact Nat.le_refl _)) (by omega) HO.out HB.out.size)
    clear HO
    go_wp2_with fail
    refine HSr.out.mono ?_
    rintro e w7 ⟨rfl, s, hp, hs, hown, hb7⟩
    have hsl : s.length = j := by rw [hp.length_eq]; exact plcTo_length (by rw [HNl.out]; exact Nat.le_refl _)
    have HE := Lib.hid (show NbRP T L w (.returned (.slice A4 j c4)) w7 from ⟨s, A4, c4, by rw [hsl], by rw [hsl]; exact own_base hown B3.out.size, HP.out s hp hs, B3.out.trans ((HB.out.trans hb7).mono B3.out.size)⟩)
    clear hp hs hown hb7 HSr HB
    go_wp2
    go_ret
    exact HE.out
 ·have HE := Lib.hid (show NbRP T L w (.returned (.slice none 0 0)) w2 from ⟨[], none, 0, rfl, World.ownsRow_nil w2 w.heap.size 3 1, .inr ⟨fun hm => by obtain ⟨k, hk, e⟩ := List.getElem_of_mem hm; exact no k hk e, rfl⟩, B2.out⟩)
  rw [e1]
  clear no e1 HFl HGm HSS2
  go_wp2
  go_ret
  exact HE.out
end Go.Proofs.YtmenmepdmojnfaaGreatDoor.Wg

namespace Go.Proofs.YtmenmepdmojnfaaGreatDoor.Wg
set_option linter.unusedVariables false
set_option linter.unusedSimpArgs false
set_option maxRecDepth 100000
open Go.RowKit Go.Proofs.YtmenmepdmojnfaaGreatDoor.Cels Go.Proofs.YtmenmepdmojnfaaGreatDoor.Dms Go.Joins
open Go.Proofs.YtmenmepdmojnfaaGreatDoor.Lst (halfR_le listR listR_small listR_half sListTilings idxR idx_at idx_end sIndexOf)
open Go.Proofs.YtmenmepdmojnfaaGreatDoor.Ext (SSP halfR allR allR_ok allR_not)
open Go.Proofs.YtmenmepdmojnfaaGreatDoor.Lis (append_any allT)
open Go.Proofs.YtmenmepdmojnfaaGreatDoor.Reg hiding add_none RC rc_start

def WayR (T : List (List Dm)) (L M : List Dm) (cs : List (Int × Int)) (b : Bool) : Prop :=
 (∃ (i j : Nat) (hi : i < T.length) (hj : j < T.length) (D : Nat → Int), T[i] = L ∧ T[j] = M ∧ (∀ v, IsD (Ed (lnk T)) j v (D v)) ∧ ((0 ≤ D i ∧ D i ≤ (T.length : Int) ∧ b = true ∧ cs = wayG T D (D i).toNat i) ∨ (D i < 0 ∧ b = false ∧ cs = []))) ∨ ((L ∉ T ∨ M ∉ T) ∧ b = false ∧ cs = [])
theorem way_no {T : List (List Dm)} {L M : List Dm} (h : (∀ (i : Nat) (hi : i < T.length), T[i] ≠ L) ∨ ∀ (i : Nat) (hi : i < T.length), T[i] ≠ M) : WayR T L M [] false := by
 refine .inr ⟨?_, rfl, rfl⟩
 rcases h with h | h
 ·left; intro hm; obtain ⟨k, hk, e⟩ := List.getElem_of_mem hm; exact h k hk e
 ·right; intro hm; obtain ⟨k, hk, e⟩ := List.getElem_of_mem hm; exact h k hk e
def WayP (T : List (List Dm)) (L M : List Dm) (w : World) (e : Ending) (w' : World) : Prop := ∃ (cs : List (Int × Int)) (b : Bool) (A : Option Addr) (c : Nat), e = .returned (.tuple #[.slice A cs.length c, .bool b]) ∧ w'.ownsRow w.heap.size 67 2 (.slice A cs.length c) cs.length (rowC cs) ∧ WayR T L M cs b ∧ Below w.heap.size w w'
end Go.Proofs.YtmenmepdmojnfaaGreatDoor.Wg
