/- FlJ, FlS in one text. -/
import Derived.Test.YtmajllgfmclcoaaMb16
import Derived.Test.YtmajllgfmclcoaaMb17
import Derived.Test.YtmajllgfmclcoaaMb18
import Derived.StillTailTactics

namespace Go.Proofs.Ytmajllgfmclcoaa.Flo
set_option linter.unusedVariables false
open Go.RowKit Go.Proofs.Ytmajllgfmclcoaa.Base Go.Proofs.Ytmajllgfmclcoaa.Euler Go.Proofs.Ytmajllgfmclcoaa.Cell Go.Proofs.Ytmajllgfmclcoaa.Reg Go.Proofs.Ytmajllgfmclcoaa.Cels Go.Joins

theorem join_table : ∀ i, i < 64 → Nb.nbTo (plC (io i)).1 (plC (io i)).2 64 = (joinF true (io i)).map plC := by decide +kernel
theorem join_true {v : Nat} (hv : v < 100) (hr : ring v = false) : Nb.nbTo (plC v).1 (plC v).2 64 = (joinF true v).map plC := by
 have := join_table (oi v) (oi_lt hv hr)
 rwa [io_oi hr] at this
theorem implNb' (W : World) {v : Nat} (hv : v < 100) (hr : ring v = false) {x y : Int} (hx : x = (plC v).1) (hy : y = (plC v).2) : Calls Try.prog 96 #[.agg #[.int .i64 x, .int .i64 y]] W (NbPost ((joinF true v).map plC) W) := by
 subst hx hy
 rw [← join_true hv hr]
 exact Nb.implNb _ _ W
theorem specNb' (W : World) {v : Nat} (hv : v < 100) (hr : ring v = false) {x y : Int} (hx : x = (plC v).1) (hy : y = (plC v).2) : Calls Try.prog 70 #[.agg #[.int .i64 x, .int .i64 y]] W (NbPost ((joinF true v).map plC) W) := by
 subst hx hy
 rw [← join_true hv hr]
 exact Nb.specNb _ _ W
def inRg (x y : Int) : Bool := decide (-1 ≤ x ∧ x ≤ 8 ∧ -1 ≤ y ∧ y ≤ 8)
theorem inRg_iff {x y : Int} : inRg x y = true ↔ -1 ≤ x ∧ x ≤ 8 ∧ -1 ≤ y ∧ y ≤ 8 := by unfold inRg; simp
theorem inRg_to (v : Nat) (d r : Nat) (hr : r < 3) : inRg ((plC v).1 + ((r : Int) - 1)) ((plC v).2 + ((d : Int) - 1)) = inTo v (3 * d + r) := by
 rw [Bool.eq_iff_iff, inRg_iff]
 unfold inTo plC
 simp only [Bool.and_eq_true, decide_eq_true_eq, show (3 * d + r) / 3 = d by omega, show (3 * d + r) % 3 = r by omega]
 omega
theorem toP_cell {v d r : Nat} (hr : r < 3) (h : inTo v (3 * d + r) = true) : plC (toP v (3 * d + r)) = ((plC v).1 + ((r : Int) - 1), (plC v).2 + ((d : Int) - 1)) := by
 unfold inTo at h
 simp only [Bool.and_eq_true, decide_eq_true_eq, show (3 * d + r) / 3 = d by omega, show (3 * d + r) % 3 = r by omega] at h
 unfold plC toP
 simp only [show (3 * d + r) / 3 = d by omega, show (3 * d + r) % 3 = r by omega]
 exact Prod.ext (by simp only; omega) (by simp only; omega)

set_option maxHeartbeats 400000 in
theorem inRing (x y : Int) (w : World) :
  Calls Try.prog 97 #[.agg #[.int .i64 x, .int .i64 y]] w (Bol (inRg x y) w) := by
 have H : ∀ (b : Bool) (W : World), (b = true ↔ -1 ≤ x ∧ x ≤ 8 ∧ -1 ≤ y ∧ y ≤ 8) → Below w.heap.size w W → Bol (inRg x y) w (.returned (.bool b)) W := fun b W h hb => mkBol (by rw [Bool.eq_iff_iff, inRg_iff]; exact h) hb
 have HH := Lib.hid H
 clear H
 go_enter Try.func97, Try.ntmps97
 go_wp2
 all_goals
  go_ret
  refine HH.out _ _ ?_ (below_alloc1 _ _)
  simp
  try omega

def Bx (w : World) (x y : Int) (W : World) : Prop := Below w.heap.size w W ∧ w.heap.size + 1 ≤ W.heap.size ∧ W.cell? ⟨w.heap.size, 0, none⟩ = some (.int .i64 x) ∧ W.cell? ⟨w.heap.size, 1, none⟩ = some (.int .i64 y)
theorem bx_start {T : TypeId} (x y : Int) (w : World) : Bx w x y (w.alloc (.cells #[.int .i64 x, .int .i64 y] T)) :=
 ⟨below_alloc1 w _, by simp, (cell_of_row _ _ 0 _ _ _ (heap_alloc_new w _)).trans rfl, (cell_of_row _ _ 1 _ _ _ (heap_alloc_new w _)).trans rfl⟩
theorem Bx.on {w W W' : World} {x y : Int} (h : Bx w x y W) (hb : Below W.heap.size W W') : Bx w x y W' := by
 obtain ⟨h0, h1, h2, h3⟩ := h
 have hz := hb.size
 exact ⟨h0.trans (hb.mono h0.size), by omega, (hb.cell (by show w.heap.size < _; omega)).trans h2, (hb.cell (by show w.heap.size < _; omega)).trans h3⟩
theorem Bx.grown {w W W' : World} {x y : Int} {B : Nat} (h : Bx w x y W) (hb : Below B W W') (hB : w.heap.size + 1 ≤ B) : Bx w x y W' := by
 obtain ⟨h0, h1, h2, h3⟩ := h
 have hz := hb.size
 exact ⟨h0.trans (hb.mono (by omega)), by omega, (hb.cell (by show w.heap.size < _; omega)).trans h2, (hb.cell (by show w.heap.size < _; omega)).trans h3⟩

set_option maxRecDepth 100000 in
set_option maxHeartbeats 2000000 in
theorem joined (g : Bool) (v : Nat) (hv : v < 100) (hg : g = true → ring v = false) (x y : Int) (hx : x = (plC v).1) (hy : y = (plC v).2) (w : World) :
  Calls Try.prog 93 #[.agg #[.int .i64 x, .int .i64 y], .bool g] w (NbPost ((joinF g v).map plC) w) := by
 obtain ⟨i0, hi, hz0, hz1, hz2⟩ := info_parts cellInfo
 have T0 := Lib.hid (fun T => bx_start (T := T) x y w)
 cases g with
 | true =>
  have HN := Lib.hid (fun W => implNb' W hv (hg rfl) hx hy)
  clear hx hy hg
  generalize (joinF true v).map plC = L at HN ⊢
  go_enter Try.func93, Try.ntmps93
  go_wp2_with fail
  refine (HN.out _).mono ?_
  rintro e w1 ⟨A, cap, rfl, hown, hb1⟩
  have T1 := (T0.out 56).on hb1
  have HO := Lib.hid (own_base (B' := w.heap.size) hown (by simp))
  have hb := T1.1
  clear hown T1 hb1
  go_wp2
  go_ret
  exact ⟨A, cap, rfl, HO.out, hb⟩
 | false =>
  have hL : ∀ k, (ringTo v k).length ≤ k := ringTo_length v
  have HL := Lib.hid hL
  have HIn := Lib.hid (fun d r hr => inRg_to v d r hr)
  have HTo := Lib.hid (fun d r hr h => toP_cell (v := v) (d := d) (r := r) hr h)
  rw [← hx, ← hy] at HIn HTo
  have HX := Lib.hid (show -1 ≤ x ∧ x ≤ 8 ∧ -1 ≤ y ∧ y ≤ 8 by rw [hx, hy]; unfold plC; simp only; omega)
  have HE := Lib.hid (show (joinF false v).map plC = (ringTo v 9).map plC from rfl)
  clear hx hy hg hL
  go_enter Try.func93, Try.ntmps93
  go_wp2_with (first
   | (at_make; refine wpList_make_own _ rfl _ _ 63 rfl (w.heap.size + 1) 56 i0 (.agg #[.int .i64 0, .int .i64 0]) 2 Try.underlying63 hi hz0 hz1 .i64 .i64 9 9 rfl rfl (by omega) (by rw [hz2]; omega) (by unfold maxLen; omega) (by simp) ?_; intro w3 hown3 hg3))
  have T3 := (T0.out 56).on ((Below.refl _ _).grown hg3 (by omega) (by simp))
  have HO := Lib.hid hown3
  clear hown3 hg3 T0
  go_loopw [5, 6] (fun s i wr => ∃ d : Nat, d ≤ 3 ∧ i = .int .i64 ((d : Int) - 1) ∧ wr.ownsRow (w.heap.size + 1) 56 2 s (ringTo v (3 * d)).length (rowC ((ringTo v (3 * d)).map plC)) ∧ Bx w x y wr) (fun _ i _ => 3 - ((intOf i) + 1).toNat)
  case atStart => exact ⟨0, Nat.zero_le _, rfl, (by have q := HO.out; simp at q; simpa [ringTo, rowC] using q), T3⟩
  case round =>
   clear HO T3
   obtain ⟨d, hd, rfl, hown, T⟩ := hrel
   by_cases hlt : d < 3
   ·have HO := Lib.hid hown
    clear hown
    go_wp2_with fail
    have hdd : decide ((d : Int) - 1 ≤ 1) = true := decide_eq_true (by omega)
    go_loopw [5, 7] (fun s i wr => ∃ r : Nat, r ≤ 3 ∧ i = .int .i64 ((r : Int) - 1) ∧ wr.ownsRow (w.heap.size + 1) 56 2 s (ringTo v (3 * d + r)).length (rowC ((ringTo v (3 * d + r)).map plC)) ∧ Bx w x y wr) (fun _ i _ => 3 - ((intOf i) + 1).toNat)
    case atStart => exact ⟨0, Nat.zero_le _, rfl, HO.out, T⟩
    case round =>
     clear HO T
     obtain ⟨r, hr, rfl, hown, T⟩ := hrel
     by_cases hlr : r < 3
     ·have HO := Lib.hid hown
      have hI := HIn.out d r hlr
      clear hown
      obtain ⟨hb, hsz, c0, c1⟩ := id T
      go_wp2_with fail
      refine (moved x y _ _ _).mono ?_
      rintro e w1 ⟨rfl, hb1⟩
      have T1 := T.on hb1
      have hw1 : wrap64 (x + ((r : Int) - 1)) = x + ((r : Int) - 1) := by have := HX.out; unfold wrap64; omega
      have hw2 : wrap64 (y + ((d : Int) - 1)) = y + ((d : Int) - 1) := by have := HX.out; unfold wrap64; omega
      rw [hw1, hw2]
      clear hw1 hw2
      have hT := HTo.out d r hlr
      have hN : inTo v (3 * d + r) = true ∧ Hid (∃ p, ringTo v (3 * d + (r + 1)) = ringTo v (3 * d + r) ++ [p] ∧ plC p = (x + ((r : Int) - 1), y + ((d : Int) - 1))) ∨ inTo v (3 * d + r) = false ∧ Hid (ringTo v (3 * d + (r + 1)) = ringTo v (3 * d + r)) := by
       cases q : inTo v (3 * d + r) with
       | true => exact .inl ⟨rfl, Lib.hid ⟨_, ringTo_yes q, hT q⟩⟩
       | false => exact .inr ⟨rfl, Lib.hid (ringTo_no q)⟩
      generalize inTo v (3 * d + r) = bb at hI hN
      generalize x + ((r : Int) - 1) = u at hI hN ⊢
      generalize y + ((d : Int) - 1) = t at hI hN ⊢
      have hw1 := hb1.size
      have HI := Lib.hid hI
      clear hT hI
      go_wp2_with fail
      refine (inRing u t _).mono ?_
      rintro e w2 ⟨rfl, hb2⟩
      have hbl := heap_alloc_new w1 (.cells #[.int .i64 u, .int .i64 t] 56)
      have hc2 : w2.cell? ⟨w1.heap.size, 0, none⟩ = some (.int .i64 u) := (hb2.cell (by simp)).trans ((cell_of_row _ _ 0 _ _ _ hbl).trans rfl)
      have hc3 : w2.cell? ⟨w1.heap.size, 1, none⟩ = some (.int .i64 t) := (hb2.cell (by simp)).trans ((cell_of_row _ _ 1 _ _ _ hbl).trans rfl)
      have hE : Below w1.heap.size w1 w2 := (below_alloc1 w1 _).trans (hb2.mono (by simp))
      have T2 := T1.on hE
      have HO2 := Lib.hid (own_below HO.out (hb1.trans (hE.mono hw1)) (Nat.le_refl _))
      have hw2 := hE.size
      have hz : w1.heap.size < w2.heap.size := by have := hb2.size; simp at this; omega
      rw [HI.out]
      clear hbl hb2 hE T1 hb1 c0 c1 hb
      rcases hN with ⟨rfl, HN⟩ | ⟨rfl, HN⟩
      ·have HLk := Lib.hid (HL.out (3 * d + r))
       go_wp2_with (first
        | (at_builtin; refine wpList_append_own _ rfl _ _ 63 rfl (w.heap.size + 1) 56 i0 (.agg #[.int .i64 0, .int .i64 0]) 2 16 Try.underlying63 hi hz0 hz1 hz2 rfl (by decide) _ (ringTo v (3 * d + r)).length (rowC ((ringTo v (3 * d + r)).map plC)) rfl (HO2.out.alloc _) ⟨w2.heap.size, 0, none⟩ 1 1 [.int .i64 u, .int .i64 t] rfl rfl (World.news_of_block (cs := #[.int .i64 u, .int .i64 t]) (t := 56) (fr := (0, 0)) (heap_alloc_new w2 _)) (by simp [Value.oneCell']) (by have := HLk.out; unfold maxLen; omega) (by have := HLk.out; omega) (by simp; omega) ?_; intro v2 w3 hown3 hgrow _))
       have T3 := T2.grown (((Below.refl (w.heap.size + 1) w2).alloc (by omega) _).grown hgrow (by simp; omega) (fun g hg => (HO2.out.lt g hg).1)) (Nat.le_refl _)
       have R := Lib.hid (show w3.ownsRow (w.heap.size + 1) 56 2 v2 (ringTo v (3 * d + (r + 1))).length (rowC ((ringTo v (3 * d + (r + 1))).map plC)) by
        obtain ⟨p, hp, hq⟩ := HN.out
        rw [hp, List.map_append, List.map_singleton, rowC_snoc, List.length_append, hq]; exact hown3)
       clear hown3 hgrow T2
       go_wp2
       go_roundw
       case rel =>
        iterate 17 apply Exists.intro
        refine ⟨⟨r + 1, by omega, ?_, R.out, T3⟩, ?_⟩
        rotate_left
        ·rw [hdd]
        ·go_num
       case measure => (simp [intOf] <;> omega)
      ·have R := Lib.hid (show w2.ownsRow (w.heap.size + 1) 56 2 _ (ringTo v (3 * d + (r + 1))).length (rowC ((ringTo v (3 * d + (r + 1))).map plC)) by rw [HN.out]; exact HO2.out)
       go_wp2
       go_roundw
       case rel =>
        iterate 17 apply Exists.intro
        refine ⟨⟨r + 1, by omega, ?_, R.out, T2⟩, ?_⟩
        rotate_left
        ·rw [hdd]
        ·go_num
       case measure => (simp [intOf] <;> omega)
     ·obtain rfl : r = 3 := by omega
      have R := Lib.hid (show wr.ownsRow (w.heap.size + 1) 56 2 _ (ringTo v (3 * (d + 1))).length (rowC ((ringTo v (3 * (d + 1))).map plC)) by rw [show 3 * (d + 1) = 3 * d + 3 by omega]; exact hown)
      clear hown
      go_wp2
      go_roundw
      case rel => exact ⟨d + 1, by omega, by go_num, R.out, T⟩
      case measure => (simp [intOf] <;> omega)
   ·obtain rfl : d = 3 := by omega
    obtain ⟨A', cap', rfl⟩ := own_shape hown
    have HO := Lib.hid hown
    have hb := T.1
    clear hown T
    go_wp2
    go_ret
    rw [HE.out]
    have e : (ringTo v (3 * 3)).length = ((ringTo v 9).map plC).length := by rw [List.length_map]
    exact ⟨A', cap', by rw [← e]; rfl, by rw [← e]; exact own_base HO.out (by omega), hb⟩
end Go.Proofs.Ytmajllgfmclcoaa.Flo

namespace Go.Proofs.Ytmajllgfmclcoaa.Flo
set_option linter.unusedVariables false
open Go.RowKit Go.Proofs.Ytmajllgfmclcoaa.Base Go.Proofs.Ytmajllgfmclcoaa.Pure Go.Proofs.Ytmajllgfmclcoaa.Euler Go.Proofs.Ytmajllgfmclcoaa.Bal Go.Proofs.Ytmajllgfmclcoaa.Cell Go.Proofs.Ytmajllgfmclcoaa.Reg Go.Proofs.Ytmajllgfmclcoaa.Cels Go.Joins

def SprPost (xs : List Int) (g : Bool) (M : Nat → Bool) (v b : Nat) (w : World) (e : Ending) (w' : World) : Prop :=
 e = .returned (.tuple #[]) ∧ ∃ M', Spr xs g M v M' ∧ Mks w' b M' ∧ Apart b (b + 1) w w'
def SP (w : World) (b : Nat) (u : Value) (x y : Int) (W : World) : Prop :=
 Apart b (b + 1) w W ∧ w.heap.size + 2 ≤ W.heap.size ∧ W.cell? ⟨w.heap.size, 0, none⟩ = some u ∧ W.cell? ⟨w.heap.size + 1, 0, none⟩ = some (.int .i64 x) ∧ W.cell? ⟨w.heap.size + 1, 1, none⟩ = some (.int .i64 y)
theorem SP.apart {w W W' : World} {b : Nat} {u : Value} {x y : Int} (h : SP w b u x y W) (hb : b < w.heap.size) (ha : Apart b (b + 1) W W') : SP w b u x y W' := by
 obtain ⟨h0, h1, h2, h3, h4⟩ := h
 have hz := ha.size
 refine ⟨h0.trans ha, by omega, ?_, ?_, ?_⟩
 ·rw [ha.cell (by show w.heap.size < _; omega) (.inr (by show b + 1 ≤ w.heap.size; omega))]; exact h2
 ·rw [ha.cell (by show w.heap.size + 1 < _; omega) (.inr (by show b + 1 ≤ w.heap.size + 1; omega))]; exact h3
 ·rw [ha.cell (by show w.heap.size + 1 < _; omega) (.inr (by show b + 1 ≤ w.heap.size + 1; omega))]; exact h4
theorem SP.on {w W W' : World} {b : Nat} {u : Value} {x y : Int} (h : SP w b u x y W) (hb : b < w.heap.size) (hw : Below W.heap.size W W') : SP w b u x y W' := h.apart hb (apart_of_below hw _ _)
theorem sp_start {w W : World} {b : Nat} {u : Value} {x y : Int} (h : RC w u x y W) : SP w b u x y W := by
 obtain ⟨h0, h1, h2⟩ := h
 exact ⟨apart_of_below h0 _ _, h1, h2⟩
theorem Mks.apart {W W' : World} {b lo hi : Nat} {M : Nat → Bool} (h : Mks W b M) (ha : Apart lo hi W W') (hd : b < lo ∨ hi ≤ b) : Mks W' b M := by
 have hl := h.lt
 obtain ⟨cs, t, h, r⟩ := h
 exact ⟨cs, t, (ha.block b hl hd).trans h, r⟩

set_option maxRecDepth 100000 in
set_option maxHeartbeats 4000000 in
theorem spread (A : Option Addr) (n cap : Nat) (xs : List Int) (hx : xs.length = n) (hn : (n : Int) ≤ 9223372036854775807) (ho : okR xs) (g : Bool) : ∀ (f : Nat) (w : World) (b v : Nat) (M : Nat → Bool) (x y : Int), openN M ≤ f → v < 100 → M v = false → clsF xs g v = true → Mks w b M → RowB w b A xs → x = (plC v).1 → y = (plC v).2 →
  Calls Try.prog 84 #[.pointer (some ⟨b, 0, none⟩), .agg #[.slice A n cap], .agg #[.int .i64 x, .int .i64 y]] w (SprPost xs g M v b w) := by
 intro f
 induction f with
 | zero =>
  intro w b v M x y hf hv hm hc hM hR hpx hpy
  have := openN_put hv hm (fun u h => putM_of h) (putM_self M v)
  omega
 | succ f ih =>
  intro w b v M x y hf hv hm hc hM hR hpx hpy
  have IH := Lib.hid ih
  have T0 := Lib.hid (fun T T' => rc_start (T := T) (T' := T') (.slice A n cap) x y w)
  have hbw := hM.lt
  have HHas := Lib.hid (fun W (u : Nat) (hu : u < 100) (ha : Apart b (b + 1) w W) X Y (hX : X = (plC u).1) (hY : Y = (plC u).2) => show Calls Try.prog 73 #[.agg #[.slice A n cap], .agg #[.int .i64 X, .int .i64 Y]] W (Bol (cR xs u) W) by
   rw [cR_has ho hu, show ((u % 10 : Nat) : Int) - 1 = X from hX.symm, show ((u / 10 : Nat) : Int) - 1 = Y from hY.symm]
   exact iHasCell W A n cap b xs hx hn (hR.below (ha.below (Nat.le_refl _) (by omega)) (Nat.le_refl _)) (by have := ha.size; omega) X Y)
  have hcg : cR xs v = g := by unfold clsF at hc; simpa using hc
  have hr1 := rowAddr b (v / 10) (by omega)
  have hq1 := cellAddr b (10 * (v / 10)) (v % 10) (by omega)
  have hvv : 10 * (v / 10) + v % 10 = v := by omega
  rw [hvv] at hq1
  have hx1 : IntKind.i64.wrap (x + 1) = ((v % 10 : Nat) : Int) := by rw [hpx, IntKind.wrap_i64]; unfold plC; simp only; omega
  have hy1 : IntKind.i64.wrap (y + 1) = ((v / 10 : Nat) : Int) := by rw [hpy, IntKind.wrap_i64]; unfold plC; simp only; omega
  have hx2 : wrap64 (x + 1) = ((v % 10 : Nat) : Int) := by rw [hpx]; unfold wrap64 plC; simp only; omega
  have hy2 : wrap64 (y + 1) = ((v / 10 : Nat) : Int) := by rw [hpy]; unfold wrap64 plC; simp only; omega
  have HP := Lib.hid (And.intro hpx hpy)
  have HF := Lib.hid hf
  have HC := Lib.hid hc
  have HMk := Lib.hid hM
  have HM := Lib.hid hm
  have HG := Lib.hid hcg
  have HR := Lib.hid hR
  generalize ((v % 10 : Nat) : Int) = X at hq1 hx1 hx2
  generalize ((v / 10 : Nat) : Int) = Y at hr1 hy1 hy2
  clear hpx hpy hf hc hM hm hcg ih hx hn hR ho hvv
  go_enter Try.func84, Try.ntmps84
  go_wp2_with fail
  have T1 := T0.out 29 56
  have HM1 := HMk.out.on T1.1
  have hc1 := HM1.cell hv
  have hfz := HM1.frozen v
  clear T0
  generalize (w.alloc (.cells #[.slice A n cap] 29)).alloc (.cells #[.int .i64 x, .int .i64 y] 56) = W1 at T1 HM1 hc1 hfz ⊢
  obtain ⟨_, hsz, cr, cx, cy⟩ := id T1
  go_still_tail 10, (by kernel_rfl)
  change wpList _ _ _ _ _ W1.drew
  have T2 := sp_start (b := b) T1.drew
  have HM2 := HM1.drew
  clear T1 HM1 hc1 hfz hsz cr cx cy hr1 hq1 hx1 hy1 hx2 hy2
  generalize W1.drew = W2 at T2 HM2 ⊢
  have hc2 := HM2.cell hv
  rw [HM.out] at hc2
  have hfz2 := HM2.frozen v
  have HM3 := Lib.hid (HM2.set hv)
  have T3 := T2.apart hbw ((Apart.refl b (b + 1) W2).setCell (p := ⟨b, v, none⟩) (Nat.le_refl _) (Nat.lt_succ_self _) (.bool true))
  have HA3 := Lib.hid T3.1
  obtain ⟨_, hsz3, cr, cx, cy⟩ := id T3
  have HM4 := Lib.hid (fun W (hb : Below (W2.setCell ⟨b, v, none⟩ (.bool true)).heap.size (W2.setCell ⟨b, v, none⟩ (.bool true)) W) => HM3.out.on hb)
  have HT4 := Lib.hid (fun W (hb : Below (W2.setCell ⟨b, v, none⟩ (.bool true)).heap.size (W2.setCell ⟨b, v, none⟩ (.bool true)) W) => T3.on hbw hb)
  clear HM2 T2 T3 HM3
  go_wp2_with fail
  refine (HHas.out _ v hv HA3.out x y HP.out.1 HP.out.2).mono ?_
  rintro e w4 ⟨rfl, hb4⟩
  have HM5 := HM4.out w4 hb4
  have T5 := HT4.out w4 hb4
  rw [HG.out]
  clear cr cx cy hc2 hfz2 hb4 HM4 HT4 hsz3 HA3
  obtain ⟨_, hsz, cr, cx, cy⟩ := id T5
  go_wp2_with fail
  refine (joined g v hv (fun e => by cases hr : ring v; exact rfl; rw [cR_ring xs v hv hr] at HG; rw [e] at HG; cases HG.out) x y HP.out.1 HP.out.2 _).mono ?_
  rintro e w6 ⟨A2, cap2, rfl, hown, hb6⟩
  have HM6 := Lib.hid (HM5.on hb6)
  have T6 := Lib.hid (T5.on hbw hb6)
  have HJ := Lib.hid (fun k (hk : k < ((joinF g v).map plC).length) => show ∃ u, (joinF g v)[k]? = some u ∧ u < 100 ∧ u ∈ joinF g v ∧ (joinF g v).take (k + 1) = (joinF g v).take k ++ [u] ∧ ((joinF g v).map plC)[k]? = some (plC u) by
   rw [List.length_map] at hk
   refine ⟨(joinF g v)[k], List.getElem?_eq_getElem hk, joinF_lt (List.getElem_mem hk), List.getElem_mem hk, List.take_succ_eq_append_getElem hk, ?_⟩
   rw [List.getElem?_map, List.getElem?_eq_getElem hk]; rfl)
  have HJl := Lib.hid (show ((joinF g v).map plC).length ≤ 64 by rw [List.length_map]; exact joinF_length g v)
  have HJe := Lib.hid (show (joinF g v).take ((joinF g v).map plC).length = joinF g v by rw [List.length_map]; exact List.take_length)
  generalize hL : (joinF g v).map plC = L at hown HJ HJl HJe
  have HRow := Lib.hid (rowIn_new hown)
  have hb4 := T5.2.1
  obtain ⟨m, hmL⟩ : ∃ m, m = L.length := ⟨_, rfl⟩
  rw [← hmL] at HJ HJl HJe HRow
  have hm64 := HJl.out
  have hlo : w.heap.size + 2 ≤ w4.heap.size := hb4
  generalize w4.heap.size = lo at HRow hlo
  generalize w6.heap.size = hi at HRow
  have HSt := Lib.hid (Mid.start (M := M) HC.out)
  rw [← hmL]
  clear cr cx cy hsz hown T5 HM5 hb6 hL hmL hb4
  go_wp2_with fail
  go_loopw [26] (fun i wr => ∃ (k : Nat) (M' : Nat → Bool), k ≤ m ∧ i = .int .i64 k ∧ Mid xs g M v ((joinF g v).take k) M' ∧ Mks wr b M' ∧ SP w b (.slice A n cap) x y wr ∧ RowIn wr lo hi 56 2 (.slice A2 m cap2) m (rowC L)) (fun i _ => m - (intOf i).toNat)
  case atStart => exact ⟨0, _, Nat.zero_le _, rfl, HSt.out, HM6.out, T6.out, HRow.out⟩
  case round =>
   clear HM6 T6 HRow HSt
   obtain ⟨k, M', hk, rfl, hmid, hM', T, hrow⟩ := hrel
   have HMid := Lib.hid hmid
   have HMk' := Lib.hid hM'
   have HT := Lib.hid T
   have HRow := Lib.hid hrow
   clear hmid hM'
   by_cases hlt : k < m
   ·obtain ⟨u, hu, hu100, huj, htk, hLk⟩ := HJ.out k hlt
    obtain ⟨q, c, hv1, hq1, hq2⟩ := hrow.1.form (by omega)
    injection hv1 with hA2 hm2 hcp2
    subst hA2
    subst hcp2
    obtain ⟨hr1, hr2⟩ := rowC_at L k (plC u) hLk
    have hc0 := hrow.1.cells (g := q) rfl _ _ hr1
    have hc1 := hrow.1.cells (g := q) rfl _ _ hr2
    rw [add_plain] at hc0 hc1
    have HU := Lib.hid (And.intro hu100 (And.intro huj htk))
    have HPU := Lib.hid (And.intro (rfl : (plC u).1 = (plC u).1) (rfl : (plC u).2 = (plC u).2))
    obtain ⟨x', hx'⟩ : ∃ x', x' = (plC u).1 := ⟨_, rfl⟩
    obtain ⟨y', hy'⟩ : ∃ y', y' = (plC u).2 := ⟨_, rfl⟩
    rw [← hx'] at hc0
    rw [← hy'] at hc1
    have HXU := Lib.hid (And.intro hx' hy')
    clear hrow hr1 hr2 hLk hu hu100 huj htk hx' hy' T
    go_wp2_with fail
    have hB7 := below_alloc1 wr (.cells #[.int .i64 x', .int .i64 y'] 56)
    refine (mHas' _ b M' (HMk'.out.on hB7) u HU.out.1 x' y' HXU.out.1 HXU.out.2).mono ?_
    rintro e w8 ⟨rfl, hb8⟩
    have hb78 : Below wr.heap.size wr w8 := hB7.trans (hb8.mono (by simp))
    have hbl := heap_alloc_new wr (.cells #[.int .i64 x', .int .i64 y'] 56)
    have hn0 : w8.cell? ⟨wr.heap.size, 0, none⟩ = some (.int .i64 x') := (hb8.cell (by simp)).trans ((cell_of_row _ _ 0 _ _ _ hbl).trans rfl)
    have hn1 : w8.cell? ⟨wr.heap.size, 1, none⟩ = some (.int .i64 y') := (hb8.cell (by simp)).trans ((cell_of_row _ _ 1 _ _ _ hbl).trans rfl)
    have hz8 : wr.heap.size < w8.heap.size := by have := hb8.size; simp at this; omega
    have HM8 := Lib.hid (HMk'.out.on hb78)
    have HT8 := Lib.hid (HT.out.on hbw hb78)
    have HR8 := Lib.hid (HRow.out.on hb78)
    clear hB7 hb8 hb78 hbl HMk' HT HRow hc0 hc1
    cases hMu : M' u with
    | true =>
     have HNx := Lib.hid (show Mid xs g M v ((joinF g v).take (k + 1)) M' by rw [HU.out.2.2]; exact HMid.out.skip (fun _ => hMu))
     clear hMu
     go_wp2
     go_round
     case rel => exact ⟨k + 1, M', by omega, by go_num, HNx.out, HM8.out, HT8.out, HR8.out⟩
     case measure => (simp [intOf] <;> omega)
    | false =>
     have HMu := Lib.hid hMu
     obtain ⟨_, hsz, cr, _, _⟩ := id HT8.out
     clear hMu
     go_wp2_with fail
     refine (HHas.out w8 u HU.out.1 HT8.out.1 x' y' HXU.out.1 HXU.out.2).mono ?_
     rintro e w9 ⟨rfl, hb9⟩
     have hn2 := (hb9.cell (p := ⟨wr.heap.size, 0, none⟩) hz8).trans hn0
     have hn3 := (hb9.cell (p := ⟨wr.heap.size, 1, none⟩) hz8).trans hn1
     have cr9 := (hb9.cell (p := ⟨w.heap.size, 0, none⟩) (by show w.heap.size < _; omega)).trans cr
     have HM9 := Lib.hid (HM8.out.on hb9)
     have HT9 := Lib.hid (HT8.out.on hbw hb9)
     have HR9 := Lib.hid (HR8.out.on hb9)
     clear hn0 hn1 cr HM8 HT8 HR8
     obtain ⟨cb, hcb⟩ : ∃ cb, cb = cR xs u := ⟨_, rfl⟩
     rw [← hcb]
     by_cases hcg : cb = g
     ·have HCu := Lib.hid (show clsF xs g u = true by unfold clsF; rw [← hcb, hcg, beq_self_eq_true])
      have hbe : (cb == g) = true := by rw [hcg, beq_self_eq_true]
      clear hcb
      go_wp2_with fail
      refine (IH.out w9 b u M' x' y' (by have := openN_put hv HM.out HMid.out.1 HMid.out.2.1; have := HF.out; omega) HU.out.1 HMu.out HCu.out HM9.out (HR.out.below (HT9.out.1.below (Nat.le_refl _) (by omega)) (Nat.le_refl _)) HXU.out.1 HXU.out.2).mono ?_
      rintro e w10 ⟨rfl, M2, hs2, hM2, ha2⟩
      have HNx := Lib.hid (show Mid xs g M v ((joinF g v).take (k + 1)) M2 by rw [HU.out.2.2]; exact HMid.out.call hv HC.out HU.out.2.1 HCu.out hs2)
      have HM10 := Lib.hid hM2
      have HT10 := Lib.hid (HT9.out.apart hbw ha2)
      have HR10 := Lib.hid (HR9.out.apart ha2 (.inr (by omega)))
      clear hs2 hM2 ha2 hn2 hn3 cr9
      go_wp2
      go_round
      case rel => exact ⟨k + 1, M2, by omega, by go_num, HNx.out, HM10.out, HT10.out, HR10.out⟩
      case measure => (simp [intOf] <;> omega)
     ·have HCu := Lib.hid (show clsF xs g u = false by unfold clsF; rw [← hcb, beq_eq_false_iff_ne]; exact hcg)
      have hbe : (cb == g) = false := by rw [beq_eq_false_iff_ne]; exact hcg
      have HNx := Lib.hid (show Mid xs g M v ((joinF g v).take (k + 1)) M' by rw [HU.out.2.2]; exact HMid.out.skip (fun q => by rw [HCu.out] at q; cases q))
      clear hcb
      go_wp2
      go_round
      case rel => exact ⟨k + 1, M', by omega, by go_num, HNx.out, HM9.out, HT9.out, HR9.out⟩
      case measure => (simp [intOf] <;> omega)
   ·obtain rfl : k = m := by omega
    have HDone := Lib.hid (show Spr xs g M v M' by have q := HMid.out; rw [HJe.out] at q; exact q.done)
    have hA := HT.out.1
    go_wp2
    exact bodyPost_ret (v := .tuple #[]) (by simp [results, Try.results84, go_sem]) rfl ⟨rfl, M', HDone.out, HMk'.out, hA⟩
end Go.Proofs.Ytmajllgfmclcoaa.Flo
