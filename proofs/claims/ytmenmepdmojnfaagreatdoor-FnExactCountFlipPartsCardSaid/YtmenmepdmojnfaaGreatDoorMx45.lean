/- Prt, WyP in one text. -/
import Derived.Test.YtmenmepdmojnfaaGreatDoorMx43
import Derived.Test.YtmenmepdmojnfaaGreatDoorMx28

namespace Go.Proofs.YtmenmepdmojnfaaGreatDoor.Wg
set_option linter.unusedVariables false
set_option linter.unusedSimpArgs false
set_option maxRecDepth 100000
open Go.RowKit Go.Proofs.YtmenmepdmojnfaaGreatDoor.Dms Go.Proofs.YtmenmepdmojnfaaGreatDoor.Til Go.Proofs.YtmenmepdmojnfaaGreatDoor.Dss Go.Proofs.YtmenmepdmojnfaaGreatDoor.Sets Go.Joins
open Go.Proofs.YtmenmepdmojnfaaGreatDoor.Lst (halfR_le listR listR_small listR_half iListTilings sListTilings idxR)
open Go.Proofs.YtmenmepdmojnfaaGreatDoor.Ext (SSP halfR)
open Go.Proofs.YtmenmepdmojnfaaGreatDoor.Reg hiding Yes add_none RC rc_start

structure Cp (E : Nat → Nat → Prop) (m k : Nat) (f : Nat → Bool) (n : Nat) : Prop where
 sn : ∀ i, i < m → (f i = true ↔ ∃ j, j < k ∧ Rch E j i)
 np : IsP E k n
section
variable {E : Nat → Nat → Prop} {m k n : Nat} {f : Nat → Bool}
theorem Cp.start (E : Nat → Nat → Prop) (m : Nat) : Cp E m 0 (fun _ => false) 0 := ⟨fun i _ => ⟨(fun h => by cases h), fun ⟨j, hj, _⟩ => by omega⟩, isP_zero E⟩
theorem Cp.skip (h : Cp E m k f n) (hk : k < m) (hf : f k = true) : Cp E m (k + 1) f n := by
 obtain ⟨j, hj, hjk⟩ := (h.sn k hk).1 hf
 refine ⟨fun i hi => ?_, isP_no h.np (fun q => q j hj hjk)⟩
 rw [h.sn i hi]
 constructor
 ·rintro ⟨a, ha, hr⟩; exact ⟨a, by omega, hr⟩
 ·rintro ⟨a, ha, hr⟩
  by_cases e : a = k
  ·subst e; exact ⟨j, hj, hjk.trans hr⟩
  ·exact ⟨a, by omega, hr⟩
theorem Cp.add (h : Cp E m k f n) (hk : k < m) (hf : f k = false) {D : Nat → Int} (hD : ∀ v, IsD E k v (D v)) : Cp E m (k + 1) (fun i => f i || decide (0 ≤ D i)) (n + 1) := by
 refine ⟨fun i hi => ?_, isP_yes h.np (fun j hj hr => by have := (h.sn k hk).2 ⟨j, hj, hr⟩; rw [hf] at this; cases this)⟩
 rw [Bool.or_eq_true, decide_eq_true_eq, h.sn i hi, isD_rch (hD i)]
 constructor
 ·rintro (⟨a, ha, hr⟩ | hr)
  ·exact ⟨a, by omega, hr⟩
  ·exact ⟨k, by omega, hr⟩
 ·rintro ⟨a, ha, hr⟩
  by_cases e : a = k
  ·subst e; exact .inr hr
  ·exact .inl ⟨a, by omega, hr⟩
end
def rowL (n : Nat) (f : Nat → Bool) : List Value := (List.range n).map fun i => Value.bool (f i)
theorem rowL_length (n : Nat) (f : Nat → Bool) : (rowL n f).length = n := by unfold rowL; simp
theorem rowL_at {n : Nat} {f : Nat → Bool} {i : Nat} (h : i < n) : (rowL n f)[i]? = some (.bool (f i)) := by unfold rowL; rw [List.getElem?_map, List.getElem?_range h]; rfl
theorem rowL_same {n : Nat} {f g : Nat → Bool} (h : ∀ i, i < n → f i = g i) : rowL n f = rowL n g := by
 unfold rowL
 refine List.map_congr_left fun i hi => ?_
 rw [h i (List.mem_range.1 hi)]
theorem rowL_set {n : Nat} (f : Nat → Bool) {i : Nat} (h : i < n) (x : Bool) : (rowL n f).set i (.bool x) = rowL n (fun j => if j = i then x else f j) := by
 apply List.ext_getElem?
 intro j
 by_cases hj : j < n
 ·rw [List.getElem?_set, rowL_at (f := f) hj, rowL_at (f := fun j => if j = i then x else f j) hj]
  by_cases e : i = j
  ·subst e; rw [if_pos rfl, if_pos (by rw [rowL_length]; exact h)]; simp
  ·rw [if_neg e]; simp [Ne.symm e]
 ·rw [List.getElem?_eq_none (by rw [List.length_set, rowL_length]; omega), List.getElem?_eq_none (by rw [rowL_length]; omega)]
def MrkR (W : World) (base b n : Nat) (f : Nat → Bool) : Prop := W.ownsRow base 4 1 (.slice (some ⟨b, 0, none⟩) n n) n (rowL n f)
section
variable {W W' : World} {base b n : Nat} {f : Nat → Bool}
theorem MrkR.lt (h : MrkR W base b n f) : base ≤ b ∧ b < W.heap.size := World.ownsRow.lt h b rfl
theorem MrkR.cell (h : MrkR W base b n f) {i : Nat} (hi : i < n) : W.cell? ⟨b, i, none⟩ = some (.bool (f i)) := (World.ownsRow.cellAt h i (by omega)).trans (rowL_at hi)
theorem MrkR.froz (h : MrkR W base b n f) (i : Nat) : W.frozen? ⟨b, i, none⟩ = false := World.ownsRow.frozenAt h i
theorem MrkR.same {g : Nat → Bool} (h : MrkR W base b n f) (e : ∀ i, i < n → f i = g i) : MrkR W base b n g := by unfold MrkR; rw [← rowL_same e]; exact h
theorem MrkR.set (h : MrkR W base b n f) {i : Nat} (hi : i < n) (x : Bool) : MrkR (W.setCell ⟨b, i, none⟩ (.bool x)) base b n (fun j => if j = i then x else f j) := by
 have := (World.ownsRow.stored h i (.bool x)).1
 rwa [rowL_set f hi] at this
theorem MrkR.on (h : MrkR W base b n f) (hb : Below W.heap.size W W') : MrkR W' base b n f := own_below h hb (Nat.le_refl _)
theorem MrkR.made (h : W.ownsRow base 4 1 (.slice (some ⟨b, 0, none⟩) n n) n (madeCells (Value.bool false).cells (n * 1)).toList) : MrkR W base b n (fun _ => false) := by
 rw [show (Value.bool false).cells = #[.bool false] from rfl, Nat.mul_one, toList_madeCells_one] at h
 unfold MrkR rowL
 rwa [show (List.range n).map (fun i => Value.bool ((fun _ => false) i)) = List.replicate n (.bool false) by
  rw [List.map_const', List.length_range]]
end
theorem RdI.set {W : World} {bl m : Nat} {D : Nat → Int} (h : RdI W bl m D) {b : Nat} (hb : bl ≠ b) (i : Nat) (v : Value) : RdI (W.setCell ⟨b, i, none⟩ v) bl m D :=
 ⟨by simpa [World.setCell] using h.1, fun j hj => (World.cell?_of_block (a := ⟨bl, j, none⟩) (Below.heap_setCell W ⟨b, i, none⟩ v bl hb)).trans (h.2 j hj)⟩
def midM (f : Nat → Bool) (D : Nat → Int) (t : Nat) (i : Nat) : Bool := if i < t then f i || decide (0 ≤ D i) else f i
theorem midM_zero (f : Nat → Bool) (D : Nat → Int) (i : Nat) : f i = midM f D 0 i := by unfold midM; rw [if_neg (by omega)]
theorem midM_all {f : Nat → Bool} {D : Nat → Int} {m i : Nat} (h : i < m) : midM f D m i = (f i || decide (0 ≤ D i)) := by unfold midM; rw [if_pos h]
theorem midM_step {f : Nat → Bool} {D : Nat → Int} {t : Nat} (x : Bool) (hx : x = (f t || decide (0 ≤ D t))) (i : Nat) : (if i = t then x else midM f D t i) = midM f D (t + 1) i := by
 unfold midM
 by_cases e : i = t
 ·subst e; rw [if_pos rfl, if_pos (by omega)]; exact hx
 ·rw [if_neg e]
  by_cases h : i < t
  ·rw [if_pos h, if_pos (by omega)]
  ·rw [if_neg h, if_neg (by omega)]
theorem midM_no {f : Nat → Bool} {D : Nat → Int} {t : Nat} (h : ¬ 0 ≤ D t) (i : Nat) : midM f D t i = midM f D (t + 1) i := by
 unfold midM
 by_cases e : i = t
 ·subst e; rw [if_neg (by omega), if_pos (by omega), decide_eq_false h, Bool.or_false]
 ·by_cases h : i < t
  ·rw [if_pos h, if_pos (by omega)]
  ·rw [if_neg h, if_neg (by omega)]
theorem midM_at (f : Nat → Bool) (D : Nat → Int) (t : Nat) : midM f D t t = f t := by unfold midM; rw [if_neg (by omega)]
theorem boolInfo : (Tryz.prog.info? 4).map (fun i => (i.zero, i.size, i.bytes)) = some (some (.bool false), 1, 1) := by kernel_rfl
def PrtP (T : List (List Dm)) (w : World) (e : Ending) (w' : World) : Prop := ∃ n : Nat, e = .returned (.int .i64 n) ∧ IsP (Ed (lnk T)) T.length n ∧ Below w.heap.size w w'
set_option maxHeartbeats 4000000 in
theorem iCountFlipParts (w : World) (A : Option Addr) (n cap B : Nat) (xs : List Int) (hx : xs.length = n) (hn : (n : Int) ≤ 9223372036854775807) (hrow : RowB w B A xs) (hB : B ≤ w.heap.size) (hT : Tab w) :
  Calls Tryz.prog 12 #[.agg #[.slice A n cap]] w (PrtP (listR xs) w) := by
 obtain ⟨i0, hi, hz0, hz1, hz2⟩ := info_parts boolInfo
 have HLs := Lib.hid (fun W (hb : Below w.heap.size w W) => iListTilings W A n cap B xs hx hn (hrow.below hb hB) (by have := hb.size; omega) (hT.on hb (Nat.le_refl _)))
 have HS := Lib.hid (below_alloc1 w (.cells #[.slice A n cap] 26))
 have HR := Lib.hid (Rg.new w (.slice A n cap))
 have hsm := listR_small xs
 have hHf := listR_half (xs := xs)
 have hhf := halfR_le xs
 have hgd := list_gd xs
 unfold SSP at HLs
 generalize listR xs = T at HLs hsm hHf hgd ⊢
 generalize halfR xs = h at HLs hHf hhf
 obtain ⟨m, hm⟩ : ∃ m, T.length = m := ⟨_, rfl⟩
 have HM := Lib.hid hm
 rw [hm] at HLs hsm
 have HDs := Lib.hid (fun W A' c' B' (hr : RowSS W B' A' m h T) (hB' : B' ≤ W.heap.size) st (hst : st < T.length) => iDistances W A' m c' B' h T hm hsm hhf hHf hgd hr hB' st hst)
 have HE := Lib.hid (show ∀ (n : Nat) wr, IsP (Ed (lnk T)) m n → Below w.heap.size w wr → PrtP T w (.returned (.int .i64 n)) wr from fun n wr h1 h2 => ⟨n, rfl, by rw [hm]; exact h1, h2⟩)
 unfold DsP at HDs
 clear hx hn hrow hB hT hm hHf hgd
 go_enter Tryz.func12, Tryz.ntmps12
 go_wp2_with fail
 generalize w.alloc (.cells #[.slice A n cap] 26) = W0 at HS HR ⊢
 have c0 := HR.out.c0
 refine (HLs.out _ HS.out).mono ?_
 rintro e w1 ⟨A3, c3, rfl, hss, hb1⟩
 have B1 := Lib.hid (HS.out.trans (hb1.mono HS.out.size))
 have HSS := Lib.hid (ss_row hss)
 clear hss hb1 HS HR c0 HLs
 go_wp2_with (first | (at_make; refine wpList_make_full _ rfl _ _ 71 rfl w1.heap.size 4 i0 (.bool false) 1 Tryz.underlying71 hi hz0 hz1 .i64 .i64 (m : Int) (m : Int) m rfl rfl rfl rfl (by rw [hz2]; omega) (by unfold maxLen; omega) (Nat.le_refl _) ?_; intro w2 hown2 hg2))
 have hb2 : Below w1.heap.size w1 w2 := (Below.refl _ _).grown hg2 (Nat.le_refl _) (by simp)
 obtain ⟨b, hbz⟩ : ∃ b, w1.heap.size = b := ⟨_, rfl⟩
 have HMk := Lib.hid (show MrkR w2 w1.heap.size b m (fun _ => false) by rw [hbz] at hown2 ⊢; exact MrkR.made hown2)
 have HB2 := Lib.hid hb2
 rw [hbz]
 clear hown2 hg2 hb2 hbz
 go_loopg [5, 16] m (fun gg sn si wr => ∃ (k : Nat) (f : Nat → Bool) (n : Nat), k + gg = m ∧ si = .int .i64 k ∧ sn = .int .i64 n ∧ n ≤ k ∧ Hid (Cp (Ed (lnk T)) m k f n) ∧ Hid (MrkR wr w1.heap.size b m f) ∧ Hid (Below w1.heap.size w1 wr))
 case atStart => exact ⟨0, _, 0, by omega, rfl, rfl, Nat.le_refl _, Lib.hid (Cp.start _ _), HMk, HB2⟩
 case round =>
  clear HMk HB2
  obtain ⟨k, f, n, hgg, rfl, rfl, hnk, HC, HK, HB⟩ := hrel
  by_cases hlt : k < m
  ·have ck := HK.out.cell hlt
   have hkI : (k : Int) < (m : Int) := by omega
   cases hf : f k with
   | true =>
    rw [hf] at ck
    have HC2 := Lib.hid (HC.out.skip hlt hf)
    clear hf
    go_wp2
    go_roundg (gk - 1)
    case measure => omega
    case rel => exact ⟨k + 1, f, n, by omega, by go_num, rfl, by omega, HC2, HK, HB⟩
   | false =>
    rw [hf] at ck
    have HSr := Lib.hid (rowSS_up (HSS.out.below HM.out HB.out (Nat.le_refl _)) HB.out.size)
    have HDi := Lib.hid (HDs.out wr A3 c3 wr.heap.size HSr.out (Nat.le_refl _) k (by rw [HM.out]; exact hlt))
    have HA := Lib.hid (fun (D : Nat → Int) hD => HC.out.add hlt hf (D := D) hD)
    clear hf HSr HC
    go_wp2_with fail
    refine HDi.out.mono ?_
    rintro e w4 ⟨bd, D, rfl, hnr, hD, _, hb4⟩
    have HR4 := Lib.hid (show RdI w4 bd m D from ⟨hnr.lt.2, fun v hv => hnr.cell hv⟩)
    have HK4 := Lib.hid (HK.out.on hb4)
    have HB4 := Lib.hid (HB.out.trans (hb4.mono HB.out.size))
    have HNe := Lib.hid (show bd ≠ b from by have := hnr.lt; have := HK.out.lt; omega)
    have HC4 := Lib.hid (HA.out D hD)
    have HGe := Lib.hid (fun v => isD_ge (hD v))
    clear hnr hD hb4 HDi HK HB HA ck
    go_wp2_with fail
    go_loopg [29] m (fun gi si wr => ∃ t : Nat, t + gi = m ∧ si = .int .i64 t ∧ Hid (MrkR wr w1.heap.size b m (midM f D t)) ∧ Hid (RdI wr bd m D) ∧ Hid (Below w1.heap.size w1 wr))
    case atStart => exact ⟨0, by omega, rfl, Lib.hid (HK4.out.same (fun i _ => midM_zero f D i)), HR4, HB4⟩
    case round =>
     clear HK4 HR4 HB4
     obtain ⟨t, hgi, rfl, HK, HR, HB⟩ := hrel
     by_cases htm : t < m
     ·have cd := HR.out.2 t htm
      have htI : (t : Int) < (m : Int) := by omega
      have hge := HGe.out t
      by_cases hneg : D t < 0
      ·have h1 : D t = -1 := by omega
       rw [h1] at cd
       have HK2 := Lib.hid (HK.out.same (fun i _ => midM_no (f := f) (D := D) (t := t) (by omega) i))
       clear hge hneg h1
       go_wp2
       go_roundg (gk - 1)
       case measure => omega
       case rel => exact ⟨t + 1, by omega, by go_num, HK2, HR, HB⟩
      ·have hq : (D t == (-1 : Int)) = false := by simp; omega
       have hqn : (D t != (-1 : Int)) = true := by simp; omega
       obtain ⟨u0, hu0⟩ : ∃ u0, wr.cell? ⟨b, t, none⟩ = some u0 := ⟨_, HK.out.cell htm⟩
       have hfz := HK.out.froz t
       have HK2 := Lib.hid ((HK.out.set htm true).same (fun i _ => midM_step true (show true = (f t || decide (0 ≤ D t)) by rw [decide_eq_true (by omega), Bool.or_true]) i))
       have HR2 := Lib.hid (HR.out.set HNe.out t (.bool true))
       have HB2 := Lib.hid (HB.out.setCell (p := ⟨b, t, none⟩) HK.out.lt.1 (.bool true))
       generalize D t = d at cd hq hqn
       clear hge hneg HK HR HB
       go_wp2
       go_roundg (gk - 1)
       case measure => omega
       case rel => exact ⟨t + 1, by omega, by go_num, HK2, HR2, HB2⟩
     ·obtain rfl : t = m := by omega
      have HK2 := Lib.hid (HK.out.same (fun i hi => midM_all hi))
      clear HR HK
      go_wp2
      go_roundg (t - (k + 1))
      case measure => omega
      case rel => exact ⟨k + 1, _, n + 1, by omega, by go_num, by go_num, by omega, HC4, HK2, HB⟩
  ·obtain rfl : k = m := by omega
   have HE2 := Lib.hid (HE.out n wr HC.out.np (B1.out.trans (HB.out.mono B1.out.size)))
   clear HC HK HB
   go_wp2
   go_ret
   exact HE2.out
end Go.Proofs.YtmenmepdmojnfaaGreatDoor.Wg

namespace Go.Proofs.YtmenmepdmojnfaaGreatDoor.Wg
set_option linter.unusedVariables false
set_option linter.unusedSimpArgs false
set_option maxRecDepth 100000
open Go.RowKit Go.Proofs.YtmenmepdmojnfaaGreatDoor.Til Go.Proofs.YtmenmepdmojnfaaGreatDoor.Dss Go.Joins
open Go.Proofs.YtmenmepdmojnfaaGreatDoor.Lst (halfR_le listR listR_small listR_half sListTilings idxR)
open Go.Proofs.YtmenmepdmojnfaaGreatDoor.Ext (SSP halfR)
open Go.Proofs.YtmenmepdmojnfaaGreatDoor.Reg hiding Yes add_none RC rc_start

set_option maxHeartbeats 4000000 in
theorem sCountFlipParts (w : World) (A : Option Addr) (n cap B : Nat) (xs : List Int) (hx : xs.length = n) (hn : (n : Int) ≤ 9223372036854775807) (hrow : RowB w B A xs) (hB : B ≤ w.heap.size) :
  Calls Tryz.prog 37 #[.agg #[.slice A n cap]] w (PrtP (listR xs) w) := by
 obtain ⟨i0, hi, hz0, hz1, hz2⟩ := info_parts boolInfo
 have HLs := Lib.hid (fun W (hb : Below w.heap.size w W) => sListTilings W A n cap B xs hx hn (hrow.below hb hB) (by have := hb.size; omega))
 have HS := Lib.hid (below_alloc1 w (.cells #[.slice A n cap] 26))
 have HR := Lib.hid (Rg.new w (.slice A n cap))
 have hsm := listR_small xs
 have HHf := Lib.hid (listR_half (xs := xs))
 have hhf := halfR_le xs
 unfold SSP at HLs
 generalize listR xs = T at HLs hsm HHf ⊢
 generalize halfR xs = h at HLs HHf hhf
 have hlnl := fun u => lnk_length T u
 have HLn := Lib.hid (fun u => Nat.le_trans (hlnl u) (by omega : 64 * T.length ≤ 100000))
 obtain ⟨m, hm⟩ : ∃ m, T.length = m := ⟨_, rfl⟩
 have HLt := Lib.hid (fun u v (hv : v ∈ lnk T u) => hm ▸ lnk_lt hv)
 have HM := Lib.hid hm
 rw [hm] at HLs hsm
 have HE := Lib.hid (show ∀ (n : Nat) wr, IsP (Ed (lnk T)) m n → Below w.heap.size w wr → PrtP T w (.returned (.int .i64 n)) wr from fun n wr h1 h2 => ⟨n, rfl, by rw [hm]; exact h1, h2⟩)
 clear hx hn hrow hB hm hlnl
 go_enter Tryz.func37, Tryz.ntmps37
 go_wp2_with fail
 generalize w.alloc (.cells #[.slice A n cap] 26) = W0 at HS HR ⊢
 have c0 := HR.out.c0
 refine (HLs.out _ HS.out).mono ?_
 rintro e w3 ⟨A3, c3, rfl, hss, hb3⟩
 have B3 := Lib.hid (HS.out.trans (hb3.mono HS.out.size))
 have HSS := Lib.hid (ss_row hss)
 clear hss hb3 HLs HS HR c0
 go_wp2_with fail
 refine (sLinks w3 A3 m c3 w3.heap.size h T HM.out (by omega) HHf.out (by omega) HSS.out (Nat.le_refl _)).mono ?_
 rintro e w1 ⟨A4, c4, rfl, hrl, _, hb4⟩
 have B1 := Lib.hid (B3.out.trans (hb4.mono B3.out.size))
 have HRl := Lib.hid hrl
 clear hrl hb4 B3 HSS
 go_wp2_with (first | (at_make; refine wpList_make_full _ rfl _ _ 71 rfl w1.heap.size 4 i0 (.bool false) 1 Tryz.underlying71 hi hz0 hz1 .i64 .i64 (m : Int) (m : Int) m rfl rfl rfl rfl (by rw [hz2]; omega) (by unfold maxLen; omega) (Nat.le_refl _) ?_; intro w2 hown2 hg2))
 have hb2 : Below w1.heap.size w1 w2 := (Below.refl _ _).grown hg2 (Nat.le_refl _) (by simp)
 obtain ⟨b, hbz⟩ : ∃ b, w1.heap.size = b := ⟨_, rfl⟩
 have HMk := Lib.hid (show MrkR w2 w1.heap.size b m (fun _ => false) by rw [hbz] at hown2 ⊢; exact MrkR.made hown2)
 have HB2 := Lib.hid hb2
 rw [hbz]
 clear hown2 hg2 hb2 hbz
 go_loopg [5, 6] m (fun gg sn si wr => ∃ (k : Nat) (f : Nat → Bool) (n : Nat), k + gg = m ∧ si = .int .i64 k ∧ sn = .int .i64 n ∧ n ≤ k ∧ Hid (Cp (Ed (lnk T)) m k f n) ∧ Hid (MrkR wr w1.heap.size b m f) ∧ Hid (Below w1.heap.size w1 wr))
 case atStart => exact ⟨0, _, 0, by omega, rfl, rfl, Nat.le_refl _, Lib.hid (Cp.start _ _), HMk, HB2⟩
 case round =>
  clear HMk HB2
  obtain ⟨k, f, n, hgg, rfl, rfl, hnk, HC, HK, HB⟩ := hrel
  by_cases hlt : k < m
  ·have ck := HK.out.cell hlt
   have hkI : (k : Int) < (m : Int) := by omega
   cases hf : f k with
   | true =>
    rw [hf] at ck
    have HC2 := Lib.hid (HC.out.skip hlt hf)
    clear hf
    go_wp2
    go_roundg (gk - 1)
    case measure => omega
    case rel => exact ⟨k + 1, f, n, by omega, by go_num, rfl, by omega, HC2, HK, HB⟩
   | false =>
    rw [hf] at ck
    have HDi := Lib.hid (sDistances wr A4 m c4 wr.heap.size (lnk T) (by omega) ((HRl.out.below HB.out (Nat.le_refl _)).mono HB.out.size) (Nat.le_refl _) k hlt HLt.out HLn.out)
    have HA := Lib.hid (fun (D : Nat → Int) hD => HC.out.add hlt hf (D := D) hD)
    clear hf HC
    go_wp2_with fail
    refine HDi.out.mono ?_
    rintro e w4 ⟨bd, D, rfl, hnr, hD, _, hb4⟩
    have HR4 := Lib.hid (show RdI w4 bd m D from ⟨hnr.lt.2, fun v hv => hnr.cell hv⟩)
    have HK4 := Lib.hid (HK.out.on hb4)
    have HB4 := Lib.hid (HB.out.trans (hb4.mono HB.out.size))
    have HNe := Lib.hid (show bd ≠ b from by have := hnr.lt; have := HK.out.lt; omega)
    have HC4 := Lib.hid (HA.out D hD)
    clear hnr hD hb4 HDi HK HB HA ck
    go_wp2_with fail
    go_loopg [8] m (fun gi si wr => ∃ t : Nat, t + gi = m ∧ si = .int .i64 t ∧ Hid (MrkR wr w1.heap.size b m (midM f D t)) ∧ Hid (RdI wr bd m D) ∧ Hid (Below w1.heap.size w1 wr))
    case atStart => exact ⟨0, by omega, rfl, Lib.hid (HK4.out.same (fun i _ => midM_zero f D i)), HR4, HB4⟩
    case round =>
     clear HK4 HR4 HB4
     obtain ⟨t, hgi, rfl, HK, HR, HB⟩ := hrel
     by_cases htm : t < m
     ·have cd := HR.out.2 t htm
      have cm := HK.out.cell htm
      rw [midM_at] at cm
      have htI : (t : Int) < (m : Int) := by omega
      have hfz := HK.out.froz t
      have HK2 := Lib.hid (fun x (hx : x = (f t || decide (0 ≤ D t))) => (HK.out.set htm x).same (fun i _ => midM_step x hx i))
      have HR2 := Lib.hid (fun x => HR.out.set HNe.out t (.bool x))
      have HB2 := Lib.hid (fun x => HB.out.setCell (p := ⟨b, t, none⟩) HK.out.lt.1 (.bool x))
      generalize D t = d at cd HK2
      generalize f t = ft at cm HK2
      clear HK HR HB
      cases ft with
      | true =>
       have HK3 := Lib.hid (HK2.out true (by simp))
       clear HK2
       go_wp2
       go_roundg (gk - 1)
       case measure => omega
       case rel => exact ⟨t + 1, by omega, by go_num, HK3, Lib.hid (HR2.out true), Lib.hid (HB2.out true)⟩
      | false =>
       by_cases hneg : 0 ≤ d
       ·have HK3 := Lib.hid (HK2.out true (by simp [hneg]))
        clear HK2
        go_wp2
        go_roundg (gk - 1)
        case measure => omega
        case rel => exact ⟨t + 1, by omega, by go_num, HK3, Lib.hid (HR2.out true), Lib.hid (HB2.out true)⟩
       ·have HK3 := Lib.hid (HK2.out false (by simp; omega))
        clear HK2
        go_wp2
        go_roundg (gk - 1)
        case measure => omega
        case rel => exact ⟨t + 1, by omega, by go_num, HK3, Lib.hid (HR2.out false), Lib.hid (HB2.out false)⟩
     ·obtain rfl : t = m := by omega
      have HK2 := Lib.hid (HK.out.same (fun i hi => midM_all hi))
      clear HR HK
      go_wp2
      go_roundg (t - (k + 1))
      case measure => omega
      case rel => exact ⟨k + 1, _, n + 1, by omega, by go_num, by go_num, by omega, HC4, HK2, HB⟩
  ·obtain rfl : k = m := by omega
   have HE2 := Lib.hid (HE.out n wr HC.out.np (B1.out.trans (HB.out.mono B1.out.size)))
   clear HC HK HB
   go_wp2
   go_ret
   exact HE2.out
end Go.Proofs.YtmenmepdmojnfaaGreatDoor.Wg
