/- Prt, HgtP, HgtT in one text. -/
import Derived.Test.YtmenmepdmojnfaaGreatDoorMw33
import Derived.Test.YtmenmepdmojnfaaGreatDoorMw24
import Derived.Test.YtmenmepdmojnfaaGreatDoorMw00

namespace Go.Proofs.YtmenmepdmojnfaaGreatDoor.Wg
set_option linter.unusedVariables false
set_option linter.unusedSimpArgs false
set_option maxRecDepth 100000
open Go.RowKit Go.Proofs.YtmenmepdmojnfaaGreatDoor.Dms Go.Proofs.YtmenmepdmojnfaaGreatDoor.Til Go.Proofs.YtmenmepdmojnfaaGreatDoor.Dss Go.Proofs.YtmenmepdmojnfaaGreatDoor.Sets Go.Joins
open Go.Proofs.YtmenmepdmojnfaaGreatDoor.Lst (halfR_le listR listR_small listR_half iListTilings sListTilings idxR)
open Go.Proofs.YtmenmepdmojnfaaGreatDoor.Ext (SSP halfR)
open Go.Proofs.YtmenmepdmojnfaaGreatDoor.Reg hiding add_none RC rc_start

structure Cp (E : Nat → Nat → Prop) (m k : Nat) (f : Nat → Bool) (n : Nat) : Prop where
 sn : ∀ i, i < m → (f i = true ↔ ∃ j, j < k ∧ Rch E j i)
 np : IsP E k n
section
variable {E : Nat → Nat → Prop} {m k n : Nat} {f : Nat → Bool}
theorem Cp.start (E : Nat → Nat → Prop) (m : Nat) : Cp E m 0 (fun _ => false) 0 := ⟨fun i _ => ⟨(fun h => by cases h), fun ⟨j, hj, _⟩ => by omega⟩, isP_zero E⟩
theorem Cp.skip (h : Cp E m k f n) (hk : k < m) (hf : f k = true) : Cp E m (k + 1) f n := by
 obtain ⟨j, hj, hjk⟩ := (h.sn k hk).1 hf
 refine ⟨fun i hi => ?_, isP_no h.np (fun q => q j hj hjk)⟩
 rw [h.sn i hi]
 constructor
 ·rintro ⟨a, ha, hr⟩; exact ⟨a, by omega, hr⟩
 ·rintro ⟨a, ha, hr⟩
  by_cases e : a = k
  ·subst e; exact ⟨j, hj, hjk.trans hr⟩
  ·exact ⟨a, by omega, hr⟩
theorem Cp.add (h : Cp E m k f n) (hk : k < m) (hf : f k = false) {D : Nat → Int} (hD : ∀ v, IsD E k v (D v)) : Cp E m (k + 1) (fun i => f i || decide (0 ≤ D i)) (n + 1) := by
 refine ⟨fun i hi => ?_, isP_yes h.np (fun j hj hr => by have := (h.sn k hk).2 ⟨j, hj, hr⟩; rw [hf] at this; cases this)⟩
 rw [Bool.or_eq_true, decide_eq_true_eq, h.sn i hi, isD_rch (hD i)]
 constructor
 ·rintro (⟨a, ha, hr⟩ | hr)
  ·exact ⟨a, by omega, hr⟩
  ·exact ⟨k, by omega, hr⟩
 ·rintro ⟨a, ha, hr⟩
  by_cases e : a = k
  ·subst e; exact .inr hr
  ·exact .inl ⟨a, by omega, hr⟩
end
def rowL (n : Nat) (f : Nat → Bool) : List Value := (List.range n).map fun i => Value.bool (f i)
theorem rowL_length (n : Nat) (f : Nat → Bool) : (rowL n f).length = n := by unfold rowL; simp
theorem rowL_at {n : Nat} {f : Nat → Bool} {i : Nat} (h : i < n) : (rowL n f)[i]? = some (.bool (f i)) := by unfold rowL; rw [List.getElem?_map, List.getElem?_range h]; rfl
theorem rowL_same {n : Nat} {f g : Nat → Bool} (h : ∀ i, i < n → f i = g i) : rowL n f = rowL n g := by
 unfold rowL
 refine List.map_congr_left fun i hi => ?_
 rw [h i (List.mem_range.1 hi)]
theorem rowL_set {n : Nat} (f : Nat → Bool) {i : Nat} (h : i < n) (x : Bool) : (rowL n f).set i (.bool x) = rowL n (fun j => if j = i then x else f j) := by
 apply List.ext_getElem?
 intro j
 by_cases hj : j < n
 ·rw [List.getElem?_set, rowL_at (f := f) hj, rowL_at (f := fun j => if j = i then x else f j) hj]
  by_cases e : i = j
  ·subst e; rw [if_pos rfl, if_pos (by rw [rowL_length]; exact h)]; simp
  ·rw [if_neg e]; simp [Ne.symm e]
 ·rw [List.getElem?_eq_none (by rw [List.length_set, rowL_length]; omega), List.getElem?_eq_none (by rw [rowL_length]; omega)]
def MrkR (W : World) (base b n : Nat) (f : Nat → Bool) : Prop := W.ownsRow base 4 1 (.slice (some ⟨b, 0, none⟩) n n) n (rowL n f)
section
variable {W W' : World} {base b n : Nat} {f : Nat → Bool}
theorem MrkR.lt (h : MrkR W base b n f) : base ≤ b ∧ b < W.heap.size := World.ownsRow.lt h b rfl
theorem MrkR.cell (h : MrkR W base b n f) {i : Nat} (hi : i < n) : W.cell? ⟨b, i, none⟩ = some (.bool (f i)) := (World.ownsRow.cellAt h i (by omega)).trans (rowL_at hi)
theorem MrkR.froz (h : MrkR W base b n f) (i : Nat) : W.frozen? ⟨b, i, none⟩ = false := World.ownsRow.frozenAt h i
theorem MrkR.same {g : Nat → Bool} (h : MrkR W base b n f) (e : ∀ i, i < n → f i = g i) : MrkR W base b n g := by unfold MrkR; rw [← rowL_same e]; exact h
theorem MrkR.set (h : MrkR W base b n f) {i : Nat} (hi : i < n) (x : Bool) : MrkR (W.setCell ⟨b, i, none⟩ (.bool x)) base b n (fun j => if j = i then x else f j) := by
 have := (World.ownsRow.stored h i (.bool x)).1
 rwa [rowL_set f hi] at this
theorem MrkR.on (h : MrkR W base b n f) (hb : Below W.heap.size W W') : MrkR W' base b n f := own_below h hb (Nat.le_refl _)
theorem MrkR.made (h : W.ownsRow base 4 1 (.slice (some ⟨b, 0, none⟩) n n) n (madeCells (Value.bool false).cells (n * 1)).toList) : MrkR W base b n (fun _ => false) := by
 rw [show (Value.bool false).cells = #[.bool false] from rfl, Nat.mul_one, toList_madeCells_one] at h
 unfold MrkR rowL
 rwa [show (List.range n).map (fun i => Value.bool ((fun _ => false) i)) = List.replicate n (.bool false) by
  rw [List.map_const', List.length_range]]
end
theorem RdI.set {W : World} {bl m : Nat} {D : Nat → Int} (h : RdI W bl m D) {b : Nat} (hb : bl ≠ b) (i : Nat) (v : Value) : RdI (W.setCell ⟨b, i, none⟩ v) bl m D :=
 ⟨by simpa [World.setCell] using h.1, fun j hj => (World.cell?_of_block (a := ⟨bl, j, none⟩) (Below.heap_setCell W ⟨b, i, none⟩ v bl hb)).trans (h.2 j hj)⟩
def midM (f : Nat → Bool) (D : Nat → Int) (t : Nat) (i : Nat) : Bool := if i < t then f i || decide (0 ≤ D i) else f i
theorem midM_zero (f : Nat → Bool) (D : Nat → Int) (i : Nat) : f i = midM f D 0 i := by unfold midM; rw [if_neg (by omega)]
theorem midM_all {f : Nat → Bool} {D : Nat → Int} {m i : Nat} (h : i < m) : midM f D m i = (f i || decide (0 ≤ D i)) := by unfold midM; rw [if_pos h]
theorem midM_step {f : Nat → Bool} {D : Nat → Int} {t : Nat} (x : Bool) (hx : x = (f t || decide (0 ≤ D t))) (i : Nat) : (if i = t then x else midM f D t i) = midM f D (t + 1) i := by
 unfold midM
 by_cases e : i = t
 ·subst e; rw [if_pos rfl, if_pos (by omega)]; exact hx
 ·rw [if_neg e]
  by_cases h : i < t
  ·rw [if_pos h, if_pos (by omega)]
  ·rw [if_neg h, if_neg (by omega)]
theorem midM_no {f : Nat → Bool} {D : Nat → Int} {t : Nat} (h : ¬ 0 ≤ D t) (i : Nat) : midM f D t i = midM f D (t + 1) i := by
 unfold midM
 by_cases e : i = t
 ·subst e; rw [if_neg (by omega), if_pos (by omega), decide_eq_false h, Bool.or_false]
 ·by_cases h : i < t
  ·rw [if_pos h, if_pos (by omega)]
  ·rw [if_neg h, if_neg (by omega)]
theorem boolInfo : (Tryz.prog.info? 4).map (fun i => (i.zero, i.size, i.bytes)) = some (some (.bool false), 1, 1) := by kernel_rfl
def PrtP (T : List (List Dm)) (w : World) (e : Ending) (w' : World) : Prop := ∃ n : Nat, e = .returned (.int .i64 n) ∧ IsP (Ed (lnk T)) T.length n ∧ Below w.heap.size w w'
set_option maxHeartbeats 4000000 in
theorem iCountFlipParts (w : World) (A : Option Addr) (n cap B : Nat) (xs : List Int) (hx : xs.length = n) (hn : (n : Int) ≤ 9223372036854775807) (hrow : RowB w B A xs) (hB : B ≤ w.heap.size) (hT : Tab w) :
  Calls Tryz.prog 12 #[.agg #[.slice A n cap]] w (PrtP (listR xs) w) := by
 obtain ⟨i0, hi, hz0, hz1, hz2⟩ := info_parts boolInfo
 have HLs := Lib.hid (fun W (hb : Below w.heap.size w W) => iListTilings W A n cap B xs hx hn (hrow.below hb hB) (by have := hb.size; omega) (hT.on hb (Nat.le_refl _)))
 have HS := Lib.hid (below_alloc1 w (.cells #[.slice A n cap] 26))
 have HR := Lib.hid (Rg.new w (.slice A n cap))
 have hsm := listR_small xs
 have hHf := listR_half (xs := xs)
 have hhf := halfR_le xs
 have hgd := list_gd xs
 unfold SSP at HLs
 generalize listR xs = T at HLs hsm hHf hgd ⊢
 generalize halfR xs = h at HLs hHf hhf
 obtain ⟨m, hm⟩ : ∃ m, T.length = m := ⟨_, rfl⟩
 have HM := Lib.hid hm
 rw [hm] at HLs hsm
 have HDs := Lib.hid (fun W A' c' B' (hr : RowSS W B' A' m h T) (hB' : B' ≤ W.heap.size) st (hst : st < T.length) => iDistances W A' m c' B' h T hm hsm hhf hHf hgd hr hB' st hst)
 have HE := Lib.hid (show ∀ (n : Nat) wr, IsP (Ed (lnk T)) m n → Below w.heap.size w wr → PrtP T w (.returned (.int .i64 n)) wr from fun n wr h1 h2 => ⟨n, rfl, by rw [hm]; exact h1, h2⟩)
 unfold DsP at HDs
 clear hx hn hrow hB hT hm hHf hgd
 go_enter Tryz.func12, Tryz.ntmps12
 go_wp2_with fail
 generalize w.alloc (.cells #[.slice A n cap] 26) = W0 at HS HR ⊢
 have c0 := HR.out.c0
 refine (HLs.out _ HS.out).mono ?_
 rintro e w1 ⟨A3, c3, rfl, hss, hb1⟩
 have B1 := Lib.hid (HS.out.trans (hb1.mono HS.out.size))
 have HSS := Lib.hid (ss_row hss)
 clear hss hb1 HS HR c0 HLs
 go_wp2_with (first | (at_make; refine wpList_make_full _ rfl _ _ 71 rfl w1.heap.size 4 i0 (.bool false) 1 Tryz.underlying71 hi hz0 hz1 .i64 .i64 (m : Int) (m : Int) m rfl rfl rfl rfl (by rw [hz2]; omega) (by unfold maxLen; omega) (Nat.le_refl _) ?_; intro w2 hown2 hg2))
 have hb2 : Below w1.heap.size w1 w2 := (Below.refl _ _).grown hg2 (Nat.le_refl _) (by simp)
 obtain ⟨b, hbz⟩ : ∃ b, w1.heap.size = b := ⟨_, rfl⟩
 have HMk := Lib.hid (show MrkR w2 w1.heap.size b m (fun _ => false) by rw [hbz] at hown2 ⊢; exact MrkR.made hown2)
 have HB2 := Lib.hid hb2
 rw [hbz]
 clear hown2 hg2 hb2 hbz
 go_loopg [5, 16] m (fun gg sn si wr => ∃ (k : Nat) (f : Nat → Bool) (n : Nat), k + gg = m ∧ si = .int .i64 k ∧ sn = .int .i64 n ∧ n ≤ k ∧ Hid (Cp (Ed (lnk T)) m k f n) ∧ Hid (MrkR wr w1.heap.size b m f) ∧ Hid (Below w1.heap.size w1 wr))
 case atStart => exact ⟨0, _, 0, by omega, rfl, rfl, Nat.le_refl _, Lib.hid (Cp.start _ _), HMk, HB2⟩
 case round =>
  clear HMk HB2
  obtain ⟨k, f, n, hgg, rfl, rfl, hnk, HC, HK, HB⟩ := hrel
  by_cases hlt : k < m
  ·have ck := HK.out.cell hlt
   have hkI : (k : Int) < (m : Int) := by omega
   cases hf : f k with
   | true =>
    rw [hf] at ck
    have HC2 := Lib.hid (HC.out.skip hlt hf)
    clear hf
    go_wp2
    go_roundg (gk - 1)
    case measure => omega
    case rel => exact ⟨k + 1, f, n, by omega, by go_num, rfl, by omega, HC2, HK, HB⟩
   | false =>
    rw [hf] at ck
    have HSr := Lib.hid (rowSS_up (HSS.out.below HM.out HB.out (Nat.le_refl _)) HB.out.size)
    have HDi := Lib.hid (HDs.out wr A3 c3 wr.heap.size HSr.out (Nat.le_refl _) k (by rw [HM.out]; exact hlt))
    have HA := Lib.hid (fun (D : Nat → Int) hD => HC.out.add hlt hf (D := D) hD)
    clear hf HSr HC
    go_wp2_with fail
    refine HDi.out.mono ?_
    rintro e w4 ⟨bd, D, rfl, hnr, hD, _, hb4⟩
    have HR4 := Lib.hid (show RdI w4 bd m D from ⟨hnr.lt.2, fun v hv => hnr.cell hv⟩)
    have HK4 := Lib.hid (HK.out.on hb4)
    have HB4 := Lib.hid (HB.out.trans (hb4.mono HB.out.size))
    have HNe := Lib.hid (show bd ≠ b from by have := hnr.lt; have := HK.out.lt; omega)
    have HC4 := Lib.hid (HA.out D hD)
    have HGe := Lib.hid (fun v => isD_ge (hD v))
    clear hnr hD hb4 HDi HK HB HA ck
    go_wp2_with fail
    go_loopg [29] m (fun gi si wr => ∃ t : Nat, t + gi = m ∧ si = .int .i64 t ∧ Hid (MrkR wr w1.heap.size b m (midM f D t)) ∧ Hid (RdI wr bd m D) ∧ Hid (Below w1.heap.size w1 wr))
    case atStart => exact ⟨0, by omega, rfl, Lib.hid (HK4.out.same (fun i _ => midM_zero f D i)), HR4, HB4⟩
    case round =>
     clear HK4 HR4 HB4
     obtain ⟨t, hgi, rfl, HK, HR, HB⟩ := hrel
     by_cases htm : t < m
     ·have cd := HR.out.2 t htm
      have htI : (t : Int) < (m : Int) := by omega
      have hge := HGe.out t
      by_cases hneg : D t < 0
      ·have h1 : D t = -1 := by omega
       rw [h1] at cd
       have HK2 := Lib.hid (HK.out.same (fun i _ => midM_no (f := f) (D := D) (t := t) (by omega) i))
       clear hge hneg h1
       go_wp2
       go_roundg (gk - 1)
       case measure => omega
       case rel => exact ⟨t + 1, by omega, by go_num, HK2, HR, HB⟩
      ·have hq : (D t == (-1 : Int)) = false := by simp; omega
       have hqn : (D t != (-1 : Int)) = true := by simp; omega
       obtain ⟨u0, hu0⟩ : ∃ u0, wr.cell? ⟨b, t, none⟩ = some u0 := ⟨_, HK.out.cell htm⟩
       have hfz := HK.out.froz t
       have HK2 := Lib.hid ((HK.out.set htm true).same (fun i _ => midM_step true (show true = (f t || decide (0 ≤ D t)) by rw [decide_eq_true (by omega), Bool.or_true]) i))
       have HR2 := Lib.hid (HR.out.set HNe.out t (.bool true))
       have HB2 := Lib.hid (HB.out.setCell (p := ⟨b, t, none⟩) HK.out.lt.1 (.bool true))
       generalize D t = d at cd hq hqn
       clear hge hneg HK HR HB
       go_wp2
       go_roundg (gk - 1)
       case measure => omega
       case rel => exact ⟨t + 1, by omega, by go_num, HK2, HR2, HB2⟩
     ·obtain rfl : t = m := by omega
      have HK2 := Lib.hid (HK.out.same (fun i hi => midM_all hi))
      clear HR HK
      go_wp2
      go_roundg (t - (k + 1))
      case measure => omega
      case rel => exact ⟨k + 1, _, n + 1, by omega, by go_num, by go_num, by omega, HC4, HK2, HB⟩
  ·obtain rfl : k = m := by omega
   have HE2 := Lib.hid (HE.out n wr HC.out.np (B1.out.trans (HB.out.mono B1.out.size)))
   clear HC HK HB
   go_wp2
   go_ret
   exact HE2.out
end Go.Proofs.YtmenmepdmojnfaaGreatDoor.Wg

namespace Go.Proofs.YtmenmepdmojnfaaGreatDoor.Hgt
set_option linter.unusedVariables false
set_option linter.unusedSimpArgs false

abbrev Fm := Nat → Nat → Int
def sumTo (f : Nat → Int) : Nat → Int
 | 0 => 0
 | n + 1 => sumTo f n + f n
def kap (H V : Fm) (i j : Nat) : Int := H i j + V (i + 1) j - H i (j + 1) - V i j
def pot (H V : Fm) (i j : Nat) : Int := sumTo (fun a => H a 0) i + sumTo (fun b => V i b) j
theorem pot_V (H V : Fm) (i j : Nat) : pot H V i (j + 1) = pot H V i j + V i j := by
 unfold pot
 show _ + (sumTo (fun b => V i b) j + V i j) = _
 omega
theorem pot_H {H V : Fm} (h : ∀ i j, i < 10 → j < 10 → kap H V i j = 0) {i : Nat} (hi : i < 10) : ∀ j, j ≤ 10 → pot H V (i + 1) j = pot H V i j + H i j
 | 0, _ => by
  unfold pot
  show sumTo (fun a => H a 0) i + H i 0 + 0 = sumTo (fun a => H a 0) i + 0 + H i 0
  omega
 | j + 1, hj => by
  have ih := pot_H h hi j (by omega)
  have hk := h i j hi (by omega)
  rw [pot_V, pot_V, ih]
  unfold kap at hk
  omega
def nb (c d : Nat × Nat) : Prop := (c.2 = d.2 ∧ (d.1 = c.1 + 1 ∨ c.1 = d.1 + 1)) ∨ (c.1 = d.1 ∧ (d.2 = c.2 + 1 ∨ c.2 = d.2 + 1))
def Ag (R : Nat → Nat → Bool) (H V H' V' : Fm) : Prop :=
 (∀ i j, ¬ (R i j = true ∧ R (i + 1) j = true) → V' (i + 1) j = V (i + 1) j) ∧ ∀ i j, ¬ (R i j = true ∧ R i (j + 1) = true) → H' i (j + 1) = H i (j + 1)
theorem Ag.refl (R : Nat → Nat → Bool) (H V : Fm) : Ag R H V H V := ⟨fun _ _ _ => rfl, fun _ _ _ => rfl⟩
theorem Ag.trans {R : Nat → Nat → Bool} {H V H1 V1 H2 V2 : Fm} (h : Ag R H V H1 V1) (k : Ag R H1 V1 H2 V2) : Ag R H V H2 V2 :=
 ⟨fun i j q => (k.1 i j q).trans (h.1 i j q), fun i j q => (k.2 i j q).trans (h.2 i j q)⟩
def setF (F : Fm) (a b : Nat) (x : Int) : Fm := fun i j => if i = a ∧ j = b then x else F i j
theorem setF_at (F : Fm) (a b : Nat) (x : Int) : setF F a b x a b = x := if_pos ⟨rfl, rfl⟩
theorem setF_ne {F : Fm} {a b i j : Nat} {x : Int} (h : ¬ (i = a ∧ j = b)) : setF F a b x i j = F i j := if_neg h
theorem carry {R : Nat → Nat → Bool} (H V : Fm) {c d : Nat × Nat} (hn : nb c d) (hc : R c.1 c.2 = true) (hd : R d.1 d.2 = true) :
  ∃ H' V', Ag R H V H' V' ∧ kap H' V' c.1 c.2 = 0 ∧ ∀ i j, (i, j) ≠ c → (i, j) ≠ d → kap H' V' i j = kap H V i j := by
 obtain ⟨a, b⟩ := c
 obtain ⟨a', b'⟩ := d
 unfold nb at hn
 simp only at hn hc hd
 rcases hn with ⟨rfl, rfl | rfl⟩ | ⟨rfl, rfl | rfl⟩
 ·-- to the right
  refine ⟨H, setF V (a + 1) b (V (a + 1) b - kap H V a b), ⟨fun i j q => setF_ne (fun e => ?_), fun _ _ _ => rfl⟩, ?_, fun i j h1 h2 => ?_⟩
  ·obtain ⟨e1, rfl⟩ := e
   have : i = a := by omega
   subst this
   exact q ⟨hc, hd⟩
  ·show H a b + setF V (a + 1) b _ (a + 1) b - H a (b + 1) - setF V (a + 1) b _ a b = 0
   rw [setF_at, setF_ne (by omega)]
   unfold kap
   omega
  ·unfold kap
   rw [setF_ne (fun e => h1 (by rw [show i = a by omega, e.2])), setF_ne (fun e => h2 (by rw [e.1, e.2]))]
 ·-- to the left
  refine ⟨H, setF V (a' + 1) b (V (a' + 1) b + kap H V (a' + 1) b), ⟨fun i j q => setF_ne (fun e => ?_), fun _ _ _ => rfl⟩, ?_, fun i j h1 h2 => ?_⟩
  ·obtain ⟨e1, rfl⟩ := e
   have : i = a' := by omega
   subst this
   exact q ⟨hd, hc⟩
  ·show H (a' + 1) b + setF V (a' + 1) b _ (a' + 1 + 1) b - H (a' + 1) (b + 1) - setF V (a' + 1) b _ (a' + 1) b = 0
   rw [setF_at, setF_ne (by omega)]
   unfold kap
   omega
  ·unfold kap
   rw [setF_ne (fun e => h2 (by rw [show i = a' by omega, e.2])), setF_ne (fun e => h1 (by rw [e.1, e.2]))]
 ·-- down
  refine ⟨setF H a (b + 1) (H a (b + 1) + kap H V a b), V, ⟨fun _ _ _ => rfl, fun i j q => setF_ne (fun e => ?_)⟩, ?_, fun i j h1 h2 => ?_⟩
  ·obtain ⟨rfl, e2⟩ := e
   have : j = b := by omega
   subst this
   exact q ⟨hc, hd⟩
  ·show setF H a (b + 1) _ a b + V (a + 1) b - setF H a (b + 1) _ a (b + 1) - V a b = 0
   rw [setF_at, setF_ne (by omega)]
   unfold kap
   omega
  ·unfold kap
   rw [setF_ne (fun e => h2 (by rw [e.1, e.2])), setF_ne (fun e => h1 (by rw [e.1, show j = b by omega]))]
 ·-- up
  refine ⟨setF H a (b' + 1) (H a (b' + 1) - kap H V a (b' + 1)), V, ⟨fun _ _ _ => rfl, fun i j q => setF_ne (fun e => ?_)⟩, ?_, fun i j h1 h2 => ?_⟩
  ·obtain ⟨rfl, e2⟩ := e
   have : j = b' := by omega
   subst this
   exact q ⟨hd, hc⟩
  ·show setF H a (b' + 1) _ a (b' + 1) + V (a + 1) (b' + 1) - setF H a (b' + 1) _ a (b' + 1 + 1) - V a (b' + 1) = 0
   rw [setF_at, setF_ne (by omega)]
   unfold kap
   omega
  ·unfold kap
   rw [setF_ne (fun e => h1 (by rw [e.1, e.2])), setF_ne (fun e => h2 (by rw [e.1, show j = b' by omega]))]
inductive Chain (R : Nat → Nat → Bool) (p : Nat × Nat) : List (Nat × Nat) → Prop
 | nil : Chain R p []
 | cons {c : Nat × Nat} {L : List (Nat × Nat)} {d : Nat × Nat} (hL : Chain R p L) (hc : R c.1 c.2 = true) (hd : d ∈ p :: L) (hn : nb c d) (hne : c ∉ p :: L) : Chain R p (c :: L)
theorem Chain.rest {R : Nat → Nat → Bool} {p : Nat × Nat} (hp : R p.1 p.2 = true) {L : List (Nat × Nat)} (h : Chain R p L) : ∀ c ∈ p :: L, R c.1 c.2 = true := by
 induction h with
 | nil => intro c hc; rw [List.mem_singleton.1 hc]; exact hp
 | cons hL hc hd hn hne ih =>
  intro e he
  rcases List.mem_cons.1 he with rfl | he
  ·exact hp
  ·rcases List.mem_cons.1 he with rfl | he
   ·exact hc
   ·exact ih e (List.mem_cons_of_mem _ he)
theorem Chain.clean {R : Nat → Nat → Bool} {p : Nat × Nat} (hp : R p.1 p.2 = true) {L : List (Nat × Nat)} (h : Chain R p L) : ∀ (H V : Fm), (∀ i j, i < 10 → j < 10 → (i, j) ∉ p :: L → kap H V i j = 0) →
  ∃ H' V', Ag R H V H' V' ∧ ∀ i j, i < 10 → j < 10 → (i, j) ≠ p → kap H' V' i j = 0 := by
 induction h with
 | nil => exact fun H V hk => ⟨H, V, Ag.refl R H V, fun i j hi hj hne => hk i j hi hj (fun q => hne (List.mem_singleton.1 q))⟩
 | @cons c L d hL hc hd hn hne ih =>
  intro H V hk
  obtain ⟨H1, V1, a1, a2, a3⟩ := carry H V hn hc (hL.rest hp d hd)
  obtain ⟨H2, V2, b1, b2⟩ := ih H1 V1 (fun i j hi hj hni => by
   by_cases e : (i, j) = c
   ·have e1 : i = c.1 := by rw [← e]
    have e2 : j = c.2 := by rw [← e]
    rw [e1, e2]; exact a2
   ·rw [a3 i j e (fun q => hni (q ▸ hd))]
    refine hk i j hi hj (fun q => ?_)
    rcases List.mem_cons.1 q with q | q
    ·exact hni (q ▸ List.mem_cons_self)
    ·rcases List.mem_cons.1 q with q | q
     ·exact e q
     ·exact hni (List.mem_cons_of_mem _ q))
  exact ⟨H2, V2, a1.trans b1, b2⟩
theorem carried {R : Nat → Nat → Bool} (hp : R 0 0 = true) {L : List (Nat × Nat)} (h : Chain R (0, 0) L) (hall : ∀ i j, i < 10 → j < 10 → R i j = true → (i, j) ∈ (0, 0) :: L) (H V : Fm) (hk : ∀ i j, i < 10 → j < 10 → R i j = false → kap H V i j = 0) :
  ∃ H' V', Ag R H V H' V' ∧ ∀ i j, i < 10 → j < 10 → kap H' V' i j = 0 := by
 obtain ⟨H1, V1, a1, a2⟩ := h.clean hp H V (fun i j hi hj hn => hk i j hi hj (by
  cases q : R i j with
  | false => rfl
  | true => exact absurd (hall i j hi hj q) hn))
 refine ⟨setF H1 0 0 (H1 0 0 - kap H1 V1 0 0), V1, ⟨a1.1, fun i j q => ?_⟩, fun i j hi hj => ?_⟩
 ·rw [setF_ne (by omega)]; exact a1.2 i j q
 ·by_cases e : i = 0 ∧ j = 0
  ·obtain ⟨rfl, rfl⟩ := e
   show setF H1 0 0 _ 0 0 + V1 (0 + 1) 0 - setF H1 0 0 _ 0 (0 + 1) - V1 0 0 = 0
   rw [setF_at, setF_ne (by omega)]
   unfold kap
   omega
  ·have := a2 i j hi hj (fun q => e (by injection q with q1 q2; exact ⟨q1, q2⟩))
   unfold kap at this ⊢
   rw [setF_ne e, setF_ne (by omega)]
   exact this
theorem short (L : List (Nat × Nat)) (hn : L.Nodup) (hl : ∀ c ∈ L, c.1 < 10 ∧ c.2 < 10) : L.length ≤ 100 := by
 have h1 : (L.map fun c => 10 * c.2 + c.1).Nodup := by
  unfold List.Nodup at hn ⊢
  rw [List.pairwise_map]
  exact hn.imp_of_mem (fun {a b} ha hb hab e => hab (by
   have := hl a ha
   have := hl b hb
   exact Prod.ext (by omega) (by omega)))
 have h2 := List.Nodup.length_le_of_subset h1 (l₂ := List.range 100) (fun x hx => by
  obtain ⟨c, hc, rfl⟩ := List.mem_map.1 hx
  have := hl c hc
  exact List.mem_range.2 (by omega))
 rw [List.length_map, List.length_range] at h2
 exact h2
theorem chain_all {R : Nat → Nat → Bool} (hin : ∀ i j, R i j = true → i < 10 ∧ j < 10) (hp : R 0 0 = true)
  (hone : ∀ Z : Nat × Nat → Prop, Z (0, 0) → (∀ c d, Z c → R d.1 d.2 = true → nb d c → Z d) → ∀ d, R d.1 d.2 = true → Z d) :
  ∃ L, Chain R (0, 0) L ∧ ∀ i j, i < 10 → j < 10 → R i j = true → (i, j) ∈ (0, 0) :: L := by
 have key : ∀ n (L : List (Nat × Nat)), Chain R (0, 0) L → ((0, 0) :: L).Nodup → 101 ≤ n + ((0, 0) :: L).length → ∃ L, Chain R (0, 0) L ∧ ∀ i j, i < 10 → j < 10 → R i j = true → (i, j) ∈ (0, 0) :: L := by
  intro n
  induction n with
  | zero =>
   intro L hL hn hl
   have := short _ hn (fun c hc => hin _ _ (hL.rest hp c hc))
   omega
  | succ n ih =>
   intro L hL hn hl
   by_cases hcl : ∀ c d, c ∈ (0, 0) :: L → R d.1 d.2 = true → nb d c → d ∈ (0, 0) :: L
   ·exact ⟨L, hL, fun i j _ _ hR => hone (fun c => c ∈ (0, 0) :: L) List.mem_cons_self hcl (i, j) hR⟩
   ·have : ∃ c d, c ∈ (0, 0) :: L ∧ R d.1 d.2 = true ∧ nb d c ∧ d ∉ (0, 0) :: L := by
     refine Classical.byContradiction fun q => hcl (fun c d h1 h2 h3 => Classical.byContradiction fun h4 => q ⟨c, d, h1, h2, h3, h4⟩)
    obtain ⟨c, d, h1, h2, h3, h4⟩ := this
    refine ih (d :: L) (Chain.cons hL h2 h1 h3 h4) ?_ (by simp at hl ⊢; omega)
    obtain ⟨n1, n2⟩ := List.nodup_cons.1 hn
    refine List.nodup_cons.2 ⟨fun q => ?_, List.nodup_cons.2 ⟨fun q => h4 (List.mem_cons_of_mem _ q), n2⟩⟩
    rcases List.mem_cons.1 q with q | q
    ·exact h4 (q ▸ List.mem_cons_self)
    ·exact n1 q
 exact key 101 [] Chain.nil (List.nodup_cons.2 ⟨by simp, List.nodup_nil⟩) (by simp)
end Go.Proofs.YtmenmepdmojnfaaGreatDoor.Hgt

namespace Go.Proofs.YtmenmepdmojnfaaGreatDoor.Hgt
set_option linter.unusedVariables false
set_option linter.unusedSimpArgs false

def sg (i j : Nat) : Int := if (i + j) % 2 = 0 then 1 else -1
theorem sg_r (i j : Nat) : sg (i + 1) j = - sg i j := by unfold sg; split <;> split <;> omega
theorem sg_d (i j : Nat) : sg i (j + 1) = - sg i j := by unfold sg; split <;> split <;> omega
theorem sg_one (i j : Nat) : sg i j = 1 ∨ sg i j = -1 := by unfold sg; split <;> simp
def bi (b : Bool) : Int := if b then 1 else 0
theorem bi_or (b : Bool) : bi b = 0 ∨ bi b = 1 := by cases b <;> simp [bi]
theorem bi_1 {b : Bool} : bi b = 1 ↔ b = true := by cases b <;> simp [bi]
theorem bi_0 {b : Bool} : bi b = 0 ↔ b = false := by cases b <;> simp [bi]
abbrev Cx := Nat → Nat → Bool
structure Tl (G : Nat → Nat → Bool) (X Y : Cx) : Prop where
 top : ∀ i, X i 0 = false
 lft : ∀ j, Y 0 j = false
 dn : ∀ i j, X i (j + 1) = true → G i j = true ∧ G i (j + 1) = true
 rt : ∀ i j, Y (i + 1) j = true → G i j = true ∧ G (i + 1) j = true
 one : ∀ i j, G i j = true → bi (X i j) + bi (Y (i + 1) j) + bi (X i (j + 1)) + bi (Y i j) = 1
 out : ∀ i j, G i j = true → 1 ≤ i ∧ i ≤ 8 ∧ 1 ≤ j ∧ j ≤ 8
section
variable {G : Nat → Nat → Bool} {X Y X' Y' : Cx}
theorem Tl.none (h : Tl G X Y) {i j : Nat} (hg : G i j = false) : X i j = false ∧ Y (i + 1) j = false ∧ X i (j + 1) = false ∧ Y i j = false := by
 refine ⟨?_, ?_, ?_, ?_⟩
 ·cases j with
  | zero => exact h.top i
  | succ j =>
   cases q : X i (j + 1) with
   | false => rfl
   | true => have := (h.dn i j q).2; rw [hg] at this; cases this
 ·cases q : Y (i + 1) j with
  | false => rfl
  | true => have := (h.rt i j q).1; rw [hg] at this; cases this
 ·cases q : X i (j + 1) with
  | false => rfl
  | true => have := (h.dn i j q).1; rw [hg] at this; cases this
 ·cases i with
  | zero => exact h.lft j
  | succ i =>
   cases q : Y (i + 1) j with
   | false => rfl
   | true => have := (h.rt i j q).2; rw [hg] at this; cases this
def wH (X : Cx) : Fm := fun i j => - sg i j * (1 - 4 * bi (X i j))
def wV (Y : Cx) : Fm := fun i j => sg i j * (1 - 4 * bi (Y i j))
theorem Tl.kap (h : Tl G X Y) {i j : Nat} (hg : G i j = true) : kap (wH X) (wV Y) i j = 0 := by
 have h1 := h.one i j hg
 unfold Hgt.kap wH wV
 rw [sg_r, sg_d]
 rcases sg_one i j with e | e <;> rw [e] <;> omega
structure Hts (G : Nat → Nat → Bool) (X Y : Cx) (h : Fm) : Prop where
 hor : ∀ i j, i < 10 → j < 10 → (G i j = true ∨ G i (j + 1) = true) → h (i + 1) (j + 1) = h i (j + 1) + wH X i (j + 1)
 ver : ∀ i j, i < 10 → j < 10 → (G i j = true ∨ G (i + 1) j = true) → h (i + 1) (j + 1) = h (i + 1) j + wV Y (i + 1) j
theorem heights (h : Tl G X Y) {L : List (Nat × Nat)} (hc : Chain (fun i j => decide (i < 10) && decide (j < 10) && !G i j) (0, 0) L)
  (hall : ∀ i j, i < 10 → j < 10 → (decide (i < 10) && decide (j < 10) && !G i j) = true → (i, j) ∈ (0, 0) :: L) : ∃ f, Hts G X Y f := by
 have h00 : G 0 0 = false := by
  cases q : G 0 0 with
  | false => rfl
  | true => have := h.out 0 0 q; omega
 obtain ⟨H, V, a, k⟩ := carried (by simp [h00]) hc hall (wH X) (wV Y) (fun i j hi hj hr => h.kap (by
  cases q : G i j with
  | true => rfl
  | false => simp [hi, hj, q] at hr))
 refine ⟨pot H V, fun i j hi hj hg => ?_, fun i j hi hj hg => ?_⟩
 ·rw [pot_H k hi (j + 1) (by omega), a.2 i j (fun q => ?_)]
  simp only [Bool.and_eq_true, Bool.not_eq_true'] at q
  rcases hg with e | e
  ·rw [q.1.2] at e; cases e
  ·rw [q.2.2] at e; cases e
 ·rw [pot_V, a.1 i j (fun q => ?_)]
  simp only [Bool.and_eq_true, Bool.not_eq_true'] at q
  rcases hg with e | e
  ·rw [q.1.2] at e; cases e
  ·rw [q.2.2] at e; cases e
def eH (X X' : Cx) : Fm := fun i j => sg i j * (bi (X i j) - bi (X' i j))
def eV (Y Y' : Cx) : Fm := fun i j => - sg i j * (bi (Y i j) - bi (Y' i j))
theorem dif_kap (h : Tl G X Y) (h' : Tl G X' Y') (i j : Nat) : kap (eH X X') (eV Y Y') i j = 0 := by
 unfold Hgt.kap eH eV
 rw [sg_r, sg_d]
 cases hg : G i j with
 | true =>
  have h1 := h.one i j hg
  have h2 := h'.one i j hg
  rcases sg_one i j with e | e <;> rw [e] <;> omega
 | false =>
  obtain ⟨a, b, c, d⟩ := h.none hg
  obtain ⟨a', b', c', d'⟩ := h'.none hg
  rw [a, b, c, d, a', b', c', d']
  omega
def dif (X Y X' Y' : Cx) : Fm := pot (eH X X') (eV Y Y')
theorem dif_H (h : Tl G X Y) (h' : Tl G X' Y') {i j : Nat} (hi : i < 10) (hj : j ≤ 10) : dif X Y X' Y' (i + 1) j = dif X Y X' Y' i j + sg i j * (bi (X i j) - bi (X' i j)) :=
 pot_H (fun i j _ _ => dif_kap h h' i j) hi j hj
theorem dif_V (X Y X' Y' : Cx) (i j : Nat) : dif X Y X' Y' i (j + 1) = dif X Y X' Y' i j + - sg i j * (bi (Y i j) - bi (Y' i j)) := pot_V _ _ i j
theorem dif_rest (h : Tl G X Y) (h' : Tl G X' Y')
  (hone : ∀ Z : Nat × Nat → Prop, Z (0, 0) → (∀ c d, Z c → (decide (d.1 < 10) && decide (d.2 < 10) && !G d.1 d.2) = true → nb d c → Z d) → ∀ d : Nat × Nat, (decide (d.1 < 10) && decide (d.2 < 10) && !G d.1 d.2) = true → Z d)
  {i j : Nat} (hi : i < 10) (hj : j < 10) (hg : G i j = false) :
  dif X Y X' Y' i j = 0 ∧ dif X Y X' Y' (i + 1) j = 0 ∧ dif X Y X' Y' i (j + 1) = 0 ∧ dif X Y X' Y' (i + 1) (j + 1) = 0 := by
 -- the four corners of such a cell are alike
 have same : ∀ a b, a < 10 → b < 10 → G a b = false → dif X Y X' Y' (a + 1) b = dif X Y X' Y' a b ∧ dif X Y X' Y' a (b + 1) = dif X Y X' Y' a b ∧ dif X Y X' Y' (a + 1) (b + 1) = dif X Y X' Y' a b := fun a b ha hb hr => by
  obtain ⟨p, q, r, s⟩ := h.none hr
  obtain ⟨p', q', r', s'⟩ := h'.none hr
  have e1 := dif_H h h' (i := a) (j := b) ha (by omega)
  have e2 := dif_V X Y X' Y' a b
  have e3 := dif_H h h' (i := a) (j := b + 1) ha (by omega)
  rw [p, p', Int.sub_self, Int.mul_zero] at e1
  rw [s, s', Int.sub_self, Int.mul_zero] at e2
  rw [r, r', Int.sub_self, Int.mul_zero] at e3
  omega
 have h00 : G 0 0 = false := by
  cases q : G 0 0 with
  | false => rfl
  | true => have := h.out 0 0 q; omega
 have key := hone (fun c => (c.1 < 10 ∧ c.2 < 10 ∧ G c.1 c.2 = false) ∧ dif X Y X' Y' c.1 c.2 = 0) ⟨⟨by omega, by omega, h00⟩, rfl⟩ (fun c d hc hd hn => by
  simp only [Bool.and_eq_true, decide_eq_true_eq, Bool.not_eq_true'] at hd
  obtain ⟨⟨d1, d2⟩, d3⟩ := hd
  obtain ⟨⟨c1, c2, c3⟩, c4⟩ := hc
  refine ⟨⟨d1, d2, d3⟩, ?_⟩
  obtain ⟨p1, p2, p3⟩ := same c.1 c.2 c1 c2 c3
  obtain ⟨q1, q2, q3⟩ := same d.1 d.2 d1 d2 d3
  obtain ⟨ci, cj⟩ := c
  obtain ⟨di, dj⟩ := d
  unfold nb at hn
  simp only at hn p1 p2 p3 q1 q2 q3 c4 ⊢
  rcases hn with ⟨rfl, rfl | rfl⟩ | ⟨rfl, rfl | rfl⟩
  ·omega
  ·omega
  ·omega
  ·omega) (i, j) (by simp [hi, hj, hg])
 have key := key.2
 obtain ⟨a, b, c⟩ := same i j hi hj hg
 simp only at key
 omega
end
end Go.Proofs.YtmenmepdmojnfaaGreatDoor.Hgt
