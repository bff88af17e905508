/- FlS, FlC, Cnt, PieI, App in one text. -/
import Derived.Test.YtmajllgfmclcoaaGreatDoorMd13
import Derived.StillTailTactics
import Derived.Test.YtmajllgfmclcoaaGreatDoorMd00
import Derived.OwnWalk
import Derived.Laws.AppendOwn
import Derived.Deep.AppendLies
set_option linter.unusedVariables false
namespace Go.Proofs.YtmajllgfmclcoaaGreatDoor.Flo
open Go.RowKit Base Go.Proofs.YtmajllgfmclcoaaGreatDoor.Pure Euler Bal Go.Proofs.YtmajllgfmclcoaaGreatDoor.Cell Reg Cels Go.Joins
def SprPost (xs : List Int) (g : Bool) (M : Nat → Bool) (v b : Nat) (w : World) (e : Ending) (w' : World) : Prop :=
 e = .returned (.tuple #[]) ∧ ∃ M', Spr xs g M v M' ∧ Mks w' b M' ∧ Apart b (b + 1) w w'
def SP (w : World) (b : Nat) (u : Value) (x y : Int) (W : World) : Prop :=
 Apart b (b + 1) w W ∧ w.heap.size + 2 ≤ W.heap.size ∧ W.cell? ⟨w.heap.size, 0, none⟩ = some u ∧ W.cell? ⟨w.heap.size + 1, 0, none⟩ = some (.int .i64 x) ∧ W.cell? ⟨w.heap.size + 1, 1, none⟩ = some (.int .i64 y)
theorem SP.apart {w W W' : World} {b : Nat} {u : Value} {x y : Int} (h : SP w b u x y W) (hb : b < w.heap.size) (ha : Apart b (b + 1) W W') : SP w b u x y W' := by
 obtain ⟨h0, h1, h2, h3, h4⟩ := h
 have hz := ha.size
 refine ⟨h0.trans ha, by omega, ?_, ?_, ?_⟩
 ·rw [ha.cell (by show w.heap.size < _; omega) (.inr (by show b + 1 ≤ w.heap.size; omega))]; exact h2
 ·rw [ha.cell (by show w.heap.size + 1 < _; omega) (.inr (by show b + 1 ≤ w.heap.size + 1; omega))]; exact h3
 ·rw [ha.cell (by show w.heap.size + 1 < _; omega) (.inr (by show b + 1 ≤ w.heap.size + 1; omega))]; exact h4
theorem SP.on {w W W' : World} {b : Nat} {u : Value} {x y : Int} (h : SP w b u x y W) (hb : b < w.heap.size) (hw : Below W.heap.size W W') : SP w b u x y W' := h.apart hb (apart_of_below hw _ _)
theorem sp_start {w W : World} {b : Nat} {u : Value} {x y : Int} (h : RC w u x y W) : SP w b u x y W := by
 obtain ⟨h0, h1, h2⟩ := h
 exact ⟨apart_of_below h0 _ _, h1, h2⟩
theorem Mks.apart {W W' : World} {b lo hi : Nat} {M : Nat → Bool} (h : Mks W b M) (ha : Apart lo hi W W') (hd : b < lo ∨ hi ≤ b) : Mks W' b M := by
 have hl := h.lt
 obtain ⟨cs, t, h, r⟩ := h
 exact ⟨cs, t, (ha.block b hl hd).trans h, r⟩
set_option maxRecDepth 100000 in
set_option maxHeartbeats 4000000 in
theorem spread (A : Option Addr) (n cap : Nat) (xs : List Int) (hx : xs.length = n) (hn : (n : Int) ≤ 9223372036854775807) (ho : okR xs) (g : Bool) : ∀ (f : Nat) (w : World) (b v : Nat) (M : Nat → Bool) (x y : Int), openN M ≤ f → v < 100 → M v = false → clsF xs g v = true → Mks w b M → RowB w b A xs → x = (plC v).1 → y = (plC v).2 →
  Calls Tryz.prog 132 #[.pointer (some ⟨b, 0, none⟩), .agg #[.slice A n cap], .agg #[.int .i64 x, .int .i64 y]] w (SprPost xs g M v b w) := by
 intro f
 induction f with
 | zero =>
  intro w b v M x y hf hv hm hc hM hR hpx hpy
  have := openN_put hv hm (fun u h => putM_of h) (putM_self M v)
  omega
 | succ f ih =>
  intro w b v M x y hf hv hm hc hM hR hpx hpy
  have IH := Lh ih
  have T0 := Lh (fun T T' => rc_start (T := T) (T' := T') (.slice A n cap) x y w)
  have hbw := hM.lt
  have HHas := Lh (fun W (u : Nat) (hu : u < 100) (ha : Apart b (b + 1) w W) X Y (hX : X = (plC u).1) (hY : Y = (plC u).2) => show Calls Tryz.prog 104 #[.agg #[.slice A n cap], .agg #[.int .i64 X, .int .i64 Y]] W (Bol (cR xs u) W) by
   rw [cR_has ho hu, show ((u % 10 : Nat) : Int) - 1 = X from hX.symm, show ((u / 10 : Nat) : Int) - 1 = Y from hY.symm]
   exact iHasCell W A n cap b xs hx hn (hR.below (ha.below NR (by omega)) NR) (by have := ha.size; omega) X Y)
  have hcg : cR xs v = g := by unfold clsF at hc; simpa using hc
  have hr1 := rowAddr b (v / 10) (by omega)
  have hq1 := cellAddr b (10 * (v / 10)) (v % 10) (by omega)
  have hvv : 10 * (v / 10) + v % 10 = v := by omega
  rw [hvv] at hq1
  have hx1 : IntKind.i64.wrap (x + 1) = ((v % 10 : Nat) : Int) := by rw [hpx, IntKind.wrap_i64]; unfold plC; simp only; omega
  have hy1 : IntKind.i64.wrap (y + 1) = ((v / 10 : Nat) : Int) := by rw [hpy, IntKind.wrap_i64]; unfold plC; simp only; omega
  have hx2 : wrap64 (x + 1) = ((v % 10 : Nat) : Int) := by rw [hpx]; unfold wrap64 plC; simp only; omega
  have hy2 : wrap64 (y + 1) = ((v / 10 : Nat) : Int) := by rw [hpy]; unfold wrap64 plC; simp only; omega
  have HP := Lh (And.intro hpx hpy)
  have HF := Lh hf
  have HC := Lh hc
  have HMk := Lh hM
  have HM := Lh hm
  have HG := Lh hcg
  have HR := Lh hR
  generalize ((v % 10 : Nat) : Int) = X at hq1 hx1 hx2
  generalize ((v / 10 : Nat) : Int) = Y at hr1 hy1 hy2
  clear hpx hpy hf hc hM hm hcg ih hx hn hR ho hvv
  go_enter Tryz.func132, Tryz.ntmps132
  go_wp2_with fail
  have T1 := T0.out 26 79
  have HM1 := HMk.out.on T1.1
  have hc1 := HM1.cell hv
  have hfz := HM1.frozen v
  clear T0
  generalize (w.alloc (.cells #[.slice A n cap] 26)).alloc (.cells #[.int .i64 x, .int .i64 y] 79) = W1 at T1 HM1 hc1 hfz ⊢
  obtain ⟨_, hsz, cr, cx, cy⟩ := id T1
  go_still_tail 10, (by kernel_rfl)
  change wpList _ _ _ _ _ W1.drew
  have T2 := sp_start (b := b) T1.drew
  have HM2 := HM1.drew
  clear T1 HM1 hc1 hfz hsz cr cx cy hr1 hq1 hx1 hy1 hx2 hy2
  generalize W1.drew = W2 at T2 HM2 ⊢
  have hc2 := HM2.cell hv
  rw [HM.out] at hc2
  have hfz2 := HM2.frozen v
  have HM3 := Lh (HM2.set hv)
  have T3 := T2.apart hbw ((Apart.refl b (b + 1) W2).setCell (p := ⟨b, v, none⟩) NR (Nat.lt_succ_self _) (.bool true))
  have HA3 := Lh T3.1
  obtain ⟨_, hsz3, cr, cx, cy⟩ := id T3
  have HM4 := Lh (fun W (hb : Below (W2.setCell ⟨b, v, none⟩ (.bool true)).heap.size (W2.setCell ⟨b, v, none⟩ (.bool true)) W) => HM3.out.on hb)
  have HT4 := Lh (fun W (hb : Below (W2.setCell ⟨b, v, none⟩ (.bool true)).heap.size (W2.setCell ⟨b, v, none⟩ (.bool true)) W) => T3.on hbw hb)
  clear HM2 T2 T3 HM3
  go_wp2_with fail
  refine (HHas.out _ v hv HA3.out x y HP.out.1 HP.out.2).mono ?_
  rintro e w4 ⟨rfl, hb4⟩
  have HM5 := HM4.out w4 hb4
  have T5 := HT4.out w4 hb4
  rw [HG.out]
  clear cr cx cy hc2 hfz2 hb4 HM4 HT4 hsz3 HA3
  obtain ⟨_, hsz, cr, cx, cy⟩ := id T5
  go_wp2_with fail
  refine (joined g v hv (fun e => by cases hr : ring v; exact rfl; rw [cR_ring xs v hv hr] at HG; rw [e] at HG; cases HG.out) x y HP.out.1 HP.out.2 _).mono ?_
  rintro e w6 ⟨A2, cap2, rfl, hown, hb6⟩
  have HM6 := Lh (HM5.on hb6)
  have T6 := Lh (T5.on hbw hb6)
  have HJ := Lh (fun k (hk : k < ((joinF g v).map plC).length) => show ∃ u, (joinF g v)[k]? = some u ∧ u < 100 ∧ u ∈ joinF g v ∧ (joinF g v).take (k + 1) = (joinF g v).take k ++ [u] ∧ ((joinF g v).map plC)[k]? = some (plC u) by
   rw [List.length_map] at hk
   refine ⟨(joinF g v)[k], List.getElem?_eq_getElem hk, joinF_lt (List.getElem_mem hk), List.getElem_mem hk, List.take_succ_eq_append_getElem hk, ?_⟩
   rw [List.getElem?_map, List.getElem?_eq_getElem hk]; rfl)
  have HJl := Lh (show ((joinF g v).map plC).length ≤ 64 by rw [List.length_map]; exact joinF_length g v)
  have HJe := Lh (show (joinF g v).take ((joinF g v).map plC).length = joinF g v by rw [List.length_map]; exact List.take_length)
  generalize hL : (joinF g v).map plC = L at hown HJ HJl HJe
  have HRow := Lh (rowIn_new hown)
  have hb4 := T5.2.1
  obtain ⟨m, hmL⟩ : ∃ m, m = L.length := ⟨_, rfl⟩
  rw [← hmL] at HJ HJl HJe HRow
  have hm64 := HJl.out
  have hlo : w.heap.size + 2 ≤ w4.heap.size := hb4
  generalize w4.heap.size = lo at HRow hlo
  generalize w6.heap.size = hi at HRow
  have HSt := Lh (Mid.start (M := M) HC.out)
  rw [← hmL]
  clear cr cx cy hsz hown T5 HM5 hb6 hL hmL hb4
  go_wp2_with fail
  go_loopw [26] (fun i wr => ∃ (k : Nat) (M' : Nat → Bool), k ≤ m ∧ i = .int .i64 k ∧ Mid xs g M v ((joinF g v).take k) M' ∧ Mks wr b M' ∧ SP w b (.slice A n cap) x y wr ∧ RowIn wr lo hi 79 2 (.slice A2 m cap2) m (rowC L)) (fun i _ => m - (intOf i).toNat)
  case atStart => exact ⟨0, _, Nat.zero_le _, rfl, HSt.out, HM6.out, T6.out, HRow.out⟩
  case round =>
   clear HM6 T6 HRow HSt
   obtain ⟨k, M', hk, rfl, hmid, hM', T, hrow⟩ := hrel
   have HMid := Lh hmid
   have HMk' := Lh hM'
   have HT := Lh T
   have HRow := Lh hrow
   clear hmid hM'
   by_cases hlt : k < m
   ·obtain ⟨u, hu, hu100, huj, htk, hLk⟩ := HJ.out k hlt
    obtain ⟨q, c, hv1, hq1, hq2⟩ := hrow.1.form (by omega)
    injection hv1 with hA2 hm2 hcp2
    subst hA2
    subst hcp2
    obtain ⟨hr1, hr2⟩ := rowC_at L k (plC u) hLk
    have hc0 := hrow.1.cells (g := q) rfl _ _ hr1
    have hc1 := hrow.1.cells (g := q) rfl _ _ hr2
    rw [add_plain] at hc0 hc1
    have HU := Lh (And.intro hu100 (And.intro huj htk))
    have HPU := Lh (And.intro (rfl : (plC u).1 = (plC u).1) (rfl : (plC u).2 = (plC u).2))
    obtain ⟨x', hx'⟩ : ∃ x', x' = (plC u).1 := ⟨_, rfl⟩
    obtain ⟨y', hy'⟩ : ∃ y', y' = (plC u).2 := ⟨_, rfl⟩
    rw [← hx'] at hc0
    rw [← hy'] at hc1
    have HXU := Lh (And.intro hx' hy')
    clear hrow hr1 hr2 hLk hu hu100 huj htk hx' hy' T
    go_wp2_with fail
    have hB7 := below_alloc1 wr (.cells #[.int .i64 x', .int .i64 y'] 79)
    refine (mHas' _ b M' (HMk'.out.on hB7) u HU.out.1 x' y' HXU.out.1 HXU.out.2).mono ?_
    rintro e w8 ⟨rfl, hb8⟩
    have hb78 : Below wr.heap.size wr w8 := hB7.trans (hb8.mono (by simp))
    have hbl := heap_alloc_new wr (.cells #[.int .i64 x', .int .i64 y'] 79)
    have hn0 : w8.cell? ⟨wr.heap.size, 0, none⟩ = some (.int .i64 x') := (hb8.cell (by simp)).trans ((cell_of_row _ _ 0 _ _ _ hbl).trans rfl)
    have hn1 : w8.cell? ⟨wr.heap.size, 1, none⟩ = some (.int .i64 y') := (hb8.cell (by simp)).trans ((cell_of_row _ _ 1 _ _ _ hbl).trans rfl)
    have hz8 : wr.heap.size < w8.heap.size := by have := hb8.size; simp at this; omega
    have HM8 := Lh (HMk'.out.on hb78)
    have HT8 := Lh (HT.out.on hbw hb78)
    have HR8 := Lh (HRow.out.on hb78)
    clear hB7 hb8 hb78 hbl HMk' HT HRow hc0 hc1
    cases hMu : M' u with
    | true =>
     have HNx := Lh (show Mid xs g M v ((joinF g v).take (k + 1)) M' by rw [HU.out.2.2]; exact HMid.out.skip (fun _ => hMu))
     clear hMu
     go_wp2
     go_round
     case rel => exact ⟨k + 1, M', by omega, by go_num, HNx.out, HM8.out, HT8.out, HR8.out⟩
     case measure => (simp [intOf] <;> omega)
    | false =>
     have HMu := Lh hMu
     obtain ⟨_, hsz, cr, _, _⟩ := id HT8.out
     clear hMu
     go_wp2_with fail
     refine (HHas.out w8 u HU.out.1 HT8.out.1 x' y' HXU.out.1 HXU.out.2).mono ?_
     rintro e w9 ⟨rfl, hb9⟩
     have hn2 := (hb9.cell (p := ⟨wr.heap.size, 0, none⟩) hz8).trans hn0
     have hn3 := (hb9.cell (p := ⟨wr.heap.size, 1, none⟩) hz8).trans hn1
     have cr9 := (hb9.cell (p := ⟨w.heap.size, 0, none⟩) (by show w.heap.size < _; omega)).trans cr
     have HM9 := Lh (HM8.out.on hb9)
     have HT9 := Lh (HT8.out.on hbw hb9)
     have HR9 := Lh (HR8.out.on hb9)
     clear hn0 hn1 cr HM8 HT8 HR8
     obtain ⟨cb, hcb⟩ : ∃ cb, cb = cR xs u := ⟨_, rfl⟩
     rw [← hcb]
     by_cases hcg : cb = g
     ·have HCu := Lh (show clsF xs g u = true by unfold clsF; rw [← hcb, hcg, beq_self_eq_true])
      have hbe : (cb == g) = true := by rw [hcg, beq_self_eq_true]
      clear hcb
      go_wp2_with fail
      refine (IH.out w9 b u M' x' y' (by have := openN_put hv HM.out HMid.out.1 HMid.out.2.1; have := HF.out; omega) HU.out.1 HMu.out HCu.out HM9.out (HR.out.below (HT9.out.1.below NR (by omega)) NR) HXU.out.1 HXU.out.2).mono ?_
      rintro e w10 ⟨rfl, M2, hs2, hM2, ha2⟩
      have HNx := Lh (show Mid xs g M v ((joinF g v).take (k + 1)) M2 by rw [HU.out.2.2]; exact HMid.out.call hv HC.out HU.out.2.1 HCu.out hs2)
      have HM10 := Lh hM2
      have HT10 := Lh (HT9.out.apart hbw ha2)
      have HR10 := Lh (HR9.out.apart ha2 (.inr (by omega)))
      clear hs2 hM2 ha2 hn2 hn3 cr9
      go_wp2
      go_round
      case rel => exact ⟨k + 1, M2, by omega, by go_num, HNx.out, HM10.out, HT10.out, HR10.out⟩
      case measure => (simp [intOf] <;> omega)
     ·have HCu := Lh (show clsF xs g u = false by unfold clsF; rw [← hcb, beq_eq_false_iff_ne]; exact hcg)
      have hbe : (cb == g) = false := by rw [beq_eq_false_iff_ne]; exact hcg
      have HNx := Lh (show Mid xs g M v ((joinF g v).take (k + 1)) M' by rw [HU.out.2.2]; exact HMid.out.skip (fun q => by rw [HCu.out] at q; cases q))
      clear hcb
      go_wp2
      go_round
      case rel => exact ⟨k + 1, M', by omega, by go_num, HNx.out, HM9.out, HT9.out, HR9.out⟩
      case measure => (simp [intOf] <;> omega)
   ·obtain rfl : k = m := by omega
    have HDone := Lh (show Spr xs g M v M' by have q := HMid.out; rw [HJe.out] at q; exact q.done)
    have hA := HT.out.1
    go_wp2
    exact bodyPost_ret (v := .tuple #[]) (by simp [results, Tryz.results132, go_sem]) rfl ⟨rfl, M', HDone.out, HMk'.out, hA⟩
end Go.Proofs.YtmajllgfmclcoaaGreatDoor.Flo
namespace Go.Proofs.YtmajllgfmclcoaaGreatDoor.Flo
open Go.RowKit Go.Proofs.YtmajllgfmclcoaaGreatDoor.Pure Bal Go.Proofs.YtmajllgfmclcoaaGreatDoor.Cell Reg Go.Joins
def hasP (xs : List Int) (u : Nat) : Bool := hasB xs (plC u).1 (plC u).2
def partsV (xs : List Int) (g : Bool) : Nat := if okR xs then partsTo xs g 100 else 0
def PC (xs : List Int) (g : Bool) (k c : Nat) (M : Nat → Bool) : Prop := (okR xs → Cl xs g k M ∧ c = partsTo xs g k) ∧ (¬ okR xs → c = 0) ∧ c ≤ k
theorem hasP_ok {xs : List Int} (ho : okR xs) {u : Nat} (hu : u < 100) : hasP xs u = cR xs u := (cR_has ho hu).symm
theorem hasP_no {xs : List Int} (ho : ¬ okR xs) (u : Nat) : hasP xs u = false := has_no_ok ho _ _
theorem PC.start (xs : List Int) (g : Bool) : PC xs g 0 0 (fun _ => false) := ⟨fun _ => ⟨Cl.start xs g, rfl⟩, fun _ => rfl, Nat.le_refl _⟩
theorem PC.no {xs : List Int} {g : Bool} {k c : Nat} {M : Nat → Bool} (h : PC xs g k c M) (hk : k < 100) (hc : (hasP xs k == g) = false) : PC xs g (k + 1) c M := by
 refine ⟨fun ho => ?_, h.2.1, by have := h.2.2; omega⟩
 obtain ⟨a, b⟩ := h.1 ho
 rw [hasP_ok ho hk] at hc
 obtain ⟨q1, q2⟩ := a.out hc
 exact ⟨q1, b.trans q2.symm⟩
theorem PC.old {xs : List Int} {g : Bool} {k c : Nat} {M : Nat → Bool} (h : PC xs g k c M) (hk : k < 100) (hm : M k = true) : PC xs g (k + 1) c M := by
 refine ⟨fun ho => ?_, h.2.1, by have := h.2.2; omega⟩
 obtain ⟨a, b⟩ := h.1 ho
 obtain ⟨q1, q2⟩ := a.old hk hm
 exact ⟨q1, b.trans q2.symm⟩
theorem PC.new {xs : List Int} {g : Bool} {k c : Nat} {M M' : Nat → Bool} (h : PC xs g k c M) (hk : k < 100) (ho : okR xs) (hc : (hasP xs k == g) = true) (hm : M k = false) (hs : Spr xs g M k M') : PC xs g (k + 1) (c + 1) M' := by
 refine ⟨fun _ => ?_, fun hn => absurd ho hn, by have := h.2.2; omega⟩
 obtain ⟨a, b⟩ := h.1 ho
 rw [hasP_ok ho hk] at hc
 obtain ⟨q1, q2⟩ := a.new hk hc hm hs
 exact ⟨q1, by rw [q2, b]⟩
theorem PC.done {xs : List Int} {g : Bool} {c : Nat} {M : Nat → Bool} (h : PC xs g 100 c M) : c = partsV xs g := by
 unfold partsV
 by_cases ho : okR xs
 ·rw [if_pos ho]; exact (h.1 ho).2
 ·rw [if_neg ho]; exact h.2.1 ho
theorem plC_at {x y : Nat} (hx : x < 10) : plC (10 * y + x) = ((x : Int) - 1, (y : Int) - 1) := by
 unfold plC
 rw [show (10 * y + x) % 10 = x by omega, show (10 * y + x) / 10 = y by omega]
def CP (w : World) (u : Value) (M : Nat → Bool) (W : World) : Prop :=
 Below w.heap.size w W ∧ W.cell? ⟨w.heap.size, 0, none⟩ = some u ∧ Mks W (w.heap.size + 1) M
theorem CP.on {w W W' : World} {u : Value} {M : Nat → Bool} (h : CP w u M W) (hb : Below W.heap.size W W') : CP w u M W' := by
 obtain ⟨h0, h1, h2⟩ := h
 have := h2.lt
 exact ⟨h0.trans (hb.mono h0.size), (hb.cell (by show w.heap.size < _; omega)).trans h1, h2.on hb⟩
theorem CP.marked {w W W' : World} {u : Value} {M M' : Nat → Bool} (h : CP w u M W) (ha : Apart (w.heap.size + 1) (w.heap.size + 1 + 1) W W') (hm : Mks W' (w.heap.size + 1) M') : CP w u M' W' := by
 obtain ⟨h0, h1, h2⟩ := h
 have := h2.lt
 exact ⟨h0.trans (ha.below (by omega) (by omega)), (ha.cell (by show w.heap.size < _; omega) (.inl (by show w.heap.size < _; omega))).trans h1, hm⟩
theorem zero_marks : Tryz.zeroCells141 = Array.replicate 100 (.bool false) := by kernel_rfl
theorem mks_new (W : World) : Mks (W.alloc (.cells Tryz.zeroCells141 141)) W.heap.size (fun _ => false) := by
 rw [zero_marks]
 exact ⟨_, _, heap_alloc_new W _, by simp, fun v hv => by simp [hv]⟩
theorem cp_start {T : TypeId} (u : Value) (w : World) : CP w u (fun _ => false) ((w.alloc (.cells #[u] T)).alloc (.cells Tryz.zeroCells141 141)) := by
 refine ⟨below_alloc2 w _ _, ?_, ?_⟩
 ·have := (rb_start (T := T) u w).on (below_alloc1 _ (.cells Tryz.zeroCells141 141))
  exact this.2.2
 ·have := mks_new (w.alloc (.cells #[u] T))
  simpa using this
set_option maxRecDepth 100000 in
set_option maxHeartbeats 4000000 in
theorem countParts (A : Option Addr) (n cap : Nat) (xs : List Int) (hx : xs.length = n) (hn : (n : Int) ≤ 9223372036854775807) (g : Bool) (hog : okR xs ∨ g = true) (w : World) (B : Nat) (hR : RowB w B A xs) (hB : B ≤ w.heap.size) :
  Calls Tryz.prog 107 #[.agg #[.slice A n cap], .bool g] w (Num ((partsV xs g : Nat) : Int) w) := by
 have HHas := Lh (fun W (u : Nat) (ha : Below w.heap.size w W) X Y (hX : X = (plC u).1) (hY : Y = (plC u).2) => show Calls Tryz.prog 104 #[.agg #[.slice A n cap], .agg #[.int .i64 X, .int .i64 Y]] W (Bol (hasP xs u) W) by
  rw [hX, hY]
  exact iHasCell W A n cap B xs hx hn (hR.below ha hB) (by have := ha.size; omega) _ _)
 have HSp := Lh (fun W (u : Nat) M X Y (hu : u < 100) (hm : M u = false) (hcl : (hasP xs u == g) = true) (hM : Mks W (w.heap.size + 1) M) (ha : Below w.heap.size w W) (hX : X = (plC u).1) (hY : Y = (plC u).2) => show okR xs ∧ Calls Tryz.prog 132 #[.pointer (some ⟨w.heap.size + 1, 0, none⟩), .agg #[.slice A n cap], .agg #[.int .i64 X, .int .i64 Y]] W (SprPost xs g M u (w.heap.size + 1) W) by
  have ho : okR xs := by
   by_cases ho : okR xs
   ·exact ho
   ·rcases hog with h | rfl
    ·exact h
    ·rw [hasP_no ho] at hcl; cases hcl
  rw [hasP_ok ho hu] at hcl
  exact ⟨ho, spread A n cap xs hx hn ho g (openN M) W (w.heap.size + 1) u M X Y NR hu hm hcl hM ((hR.below ha hB).mono (by omega)) hX hY⟩)
 have T0 := Lh (fun T => cp_start (T := T) (.slice A n cap) w)
 clear hx hn hog hR hB
 go_enter Tryz.func107, Tryz.ntmps107
 go_wp2_with fail
 have T1 := T0.out 26
 clear T0
 generalize (w.alloc (.cells #[.slice A n cap] 26)).alloc (.cells Tryz.zeroCells141 141) = W1 at T1 ⊢
 go_loopw [6, 10] (fun s i wr => ∃ (y c : Nat) (M : Nat → Bool), y ≤ 10 ∧ i = .int .i64 y ∧ s = .int .i64 c ∧ c ≤ 100 ∧ PC xs g (10 * y) c M ∧ CP w (.slice A n cap) M wr) (fun _ i _ => 10 - (intOf i).toNat)
 case atStart => exact ⟨0, 0, _, by omega, rfl, rfl, by omega, PC.start xs g, T1⟩
 case round =>
  clear T1
  obtain ⟨y, c, M, hy, rfl, rfl, hc, hpc, hcp⟩ := hrel
  by_cases hlt : y < 10
  ·have HPC := Lh hpc
   have HCP := Lh hcp
   clear hpc hcp
   go_wp2_with fail
   go_loopw [6, 13] (fun s i wr => ∃ (x c : Nat) (M : Nat → Bool), x ≤ 10 ∧ i = .int .i64 x ∧ s = .int .i64 c ∧ c ≤ 100 ∧ PC xs g (10 * y + x) c M ∧ CP w (.slice A n cap) M wr) (fun _ i _ => 10 - (intOf i).toNat)
   case atStart => exact ⟨0, c, M, by omega, rfl, rfl, hc, HPC.out, HCP.out⟩
   case round =>
    clear HPC HCP hc
    obtain ⟨x, c', M', hx, rfl, rfl, hc', hpc, hcp⟩ := hrel
    by_cases hlx : x < 10
    ·obtain ⟨hb, cr, hM⟩ := id hcp
     have hk : 10 * y + x < 100 := by omega
     have hpl := plC_at (y := y) hlx
     have hX : (x : Int) - 1 = (plC (10 * y + x)).1 := by rw [hpl]
     have hY : (y : Int) - 1 = (plC (10 * y + x)).2 := by rw [hpl]
     have HXY := Lh (And.intro hX hY)
     have HPC := Lh hpc
     have HCP := Lh hcp
     have hbl := hM.lt
     have cr1 : ∀ o, (wr.alloc o).cell? ⟨w.heap.size, 0, none⟩ = some (.slice A n cap) := fun o => ((below_alloc1 wr o).cell (by show w.heap.size < _; omega)).trans cr
     have hdy : decide ((y : Int) < 10) = true := decide_eq_true (by omega)
     clear hpl hX hY hpc hcp hM cr
     go_wp2_with fail
     have hB7 := below_alloc1 wr (.cells #[.int .i64 ((x : Int) - 1), .int .i64 ((y : Int) - 1)] 79)
     refine (HHas.out _ (10 * y + x) (hb.trans (hB7.mono hb.size)) _ _ HXY.out.1 HXY.out.2).mono ?_
     rintro e w8 ⟨rfl, hb8⟩
     generalize hxi : (x : Int) - 1 = X at HXY hB7 hb8 ⊢
     generalize hyi : (y : Int) - 1 = Y at HXY hB7 hb8 ⊢
     have hb78 : Below wr.heap.size wr w8 := hB7.trans (hb8.mono (by simp))
     have hbl2 := heap_alloc_new wr (.cells #[.int .i64 X, .int .i64 Y] 79)
     have hn0 : w8.cell? ⟨wr.heap.size, 0, none⟩ = some (.int .i64 X) := (hb8.cell (by simp)).trans ((cell_of_row _ _ 0 _ _ _ hbl2).trans rfl)
     have hn1 : w8.cell? ⟨wr.heap.size, 1, none⟩ = some (.int .i64 Y) := (hb8.cell (by simp)).trans ((cell_of_row _ _ 1 _ _ _ hbl2).trans rfl)
     have hz8 : wr.heap.size < w8.heap.size := by have := hb8.size; simp at this; omega
     have HCP8 := Lh (HCP.out.on hb78)
     clear hB7 hb8 hb78 hbl2 HCP cr1 hxi hyi hb hbl
     obtain ⟨cb, hcb⟩ : ∃ cb, cb = hasP xs (10 * y + x) := ⟨_, rfl⟩
     rw [← hcb]
     by_cases hcg : cb = g
     ·have HCu := Lh (show (hasP xs (10 * y + x) == g) = true by rw [← hcb, hcg, beq_self_eq_true])
      have hbe : (cb == g) = true := by rw [hcg, beq_self_eq_true]
      clear hcb
      go_wp2_with fail
      refine (mHas' w8 _ M' HCP8.out.2.2 (10 * y + x) hk X Y HXY.out.1 HXY.out.2).mono ?_
      rintro e w9 ⟨rfl, hb9⟩
      have hn2 := (hb9.cell (p := ⟨wr.heap.size, 0, none⟩) hz8).trans hn0
      have hn3 := (hb9.cell (p := ⟨wr.heap.size, 1, none⟩) hz8).trans hn1
      have HCP9 := Lh (HCP8.out.on hb9)
      clear hn0 hn1 hb9 HCP8 hz8
      cases hMu : M' (10 * y + x) with
      | true =>
       have HNx := Lh (show PC xs g (10 * y + (x + 1)) c' M' from HPC.out.old hk hMu)
       clear hMu
       go_wp2
       go_roundw
       case rel =>
        repeat apply Exists.intro
        refine ⟨⟨x + 1, c', M', by omega, ?_, ?_, ?_, HNx.out, HCP9.out⟩, ?_⟩
        rotate_left 3
        ·rw [hdy]
        ·go_num
        ·go_num
        ·omega
       case measure => (simp [intOf] <;> omega)
      | false =>
       obtain ⟨hb9, cr9, hM9⟩ := id HCP9.out
       have HSp' := Lh (HSp.out w9 (10 * y + x) M' X Y hk hMu HCu.out hM9 hb9 HXY.out.1 HXY.out.2)
       have HMu := Lh hMu
       clear hMu hb9 hM9
       go_wp2_with fail
       refine HSp'.out.2.mono ?_
       rintro e w10 ⟨rfl, M2, hs2, hM2, ha2⟩
       have HNx := Lh (show PC xs g (10 * y + (x + 1)) (c' + 1) M2 from HPC.out.new hk HSp'.out.1 HCu.out HMu.out hs2)
       have HCP10 := Lh (HCP9.out.marked ha2 hM2)
       have hcc : c' + 1 ≤ 100 := by have := HNx.out.2.2; omega
       clear hs2 hM2 ha2 hn2 hn3 cr9
       go_wp2
       go_roundw
       case rel =>
        repeat apply Exists.intro
        refine ⟨⟨x + 1, c' + 1, M2, by omega, ?_, ?_, ?_, HNx.out, HCP10.out⟩, ?_⟩
        rotate_left 3
        ·rw [hdy]
        ·go_num
        ·go_num
        ·omega
       case measure => (simp [intOf] <;> omega)
     ·have HNx := Lh (show PC xs g (10 * y + (x + 1)) c' M' from HPC.out.no hk (by rw [← hcb, beq_eq_false_iff_ne]; exact hcg))
      have hbe : (cb == g) = false := by rw [beq_eq_false_iff_ne]; exact hcg
      clear hcb
      go_wp2
      go_roundw
      case rel =>
       repeat apply Exists.intro
       refine ⟨⟨x + 1, c', M', by omega, ?_, ?_, ?_, HNx.out, HCP8.out⟩, ?_⟩
       rotate_left 3
       ·rw [hdy]
       ·go_num
       ·go_num
       ·omega
      case measure => (simp [intOf] <;> omega)
    ·obtain rfl : x = 10 := by omega
     have HPC := Lh (show PC xs g (10 * (y + 1)) c' M' by rw [show 10 * (y + 1) = 10 * y + 10 by omega]; exact hpc)
     clear hpc
     go_wp2
     go_roundw
     case rel => exact ⟨y + 1, c', M', by omega, by go_num, rfl, hc', HPC.out, hcp⟩
     case measure => (simp [intOf] <;> omega)
  ·obtain rfl : y = 10 := by omega
   have HD := Lh hpc.done
   have hb := hcp.1
   clear hpc hcp
   go_wp2
   go_ret
   exact mkNum (by rw [HD.out]) hb
end Go.Proofs.YtmajllgfmclcoaaGreatDoor.Flo
namespace Go.Proofs.YtmajllgfmclcoaaGreatDoor.Flo
open Go.RowKit Go.Proofs.YtmajllgfmclcoaaGreatDoor.Pure Euler Bal Go.Proofs.YtmajllgfmclcoaaGreatDoor.Cell Reg Go.Joins
def pcsN (xs : List Int) : Nat := if okR xs then piecesN xs else 0
def holN (xs : List Int) : Nat := if okR xs then outsN xs - 1 else 0
theorem cnt_max (p : Nat → Bool) : ∀ n, cnt n p ≤ n
 | 0 => Nat.le_refl _
 | n + 1 => by
  have := cnt_max p n
  have h2 : (p n).toNat ≤ 1 := by cases p n <;> decide
  simp only [cnt]; omega
theorem pcsN_le (xs : List Int) : pcsN xs ≤ 64 := by
 unfold pcsN
 split
 ·exact cnt_max _ 64
 ·omega
theorem holN_le (xs : List Int) : holN xs ≤ 100 := by
 unfold holN
 split
 ·have : outsN xs ≤ 100 := cnt_max _ 100
  omega
 ·omega
theorem partsV_true (xs : List Int) : partsV xs true = pcsN xs := by unfold partsV pcsN; rw [parts_true]
theorem partsV_false {xs : List Int} (ho : okR xs) : ((partsV xs false : Nat) : Int) = (holN xs : Int) + 1 := by
 unfold partsV holN
 rw [if_pos ho, if_pos ho, parts_false]
 have := outs_pos xs
 omega
set_option maxHeartbeats 400000 in
theorem iCountPieces (w : World) (A : Option Addr) (n cap B : Nat) (xs : List Int) (hx : xs.length = n) (hn : (n : Int) ≤ 9223372036854775807) (h : RowB w B A xs) (hB : B ≤ w.heap.size) :
  Calls Tryz.prog 76 #[.agg #[.slice A n cap]] w (Num ((pcsN xs : Nat) : Int) w) := by
 have HC := Lh (fun W (hb : Below w.heap.size w W) => countParts A n cap xs hx hn true (.inr rfl) W B (h.below hb hB) (by have := hb.size; omega))
 have T0 := Lh (fun T => rb_start (T := T) (.slice A n cap) w)
 rw [partsV_true] at HC
 clear hx hn h
 generalize ((pcsN xs : Nat) : Int) = z at HC ⊢
 go_enter Tryz.func76, Tryz.ntmps76
 go_wp2_with fail
 have T1 := T0.out 26
 clear T0
 refine (HC.out _ T1.1).mono ?_
 rintro e w1 ⟨rfl, hb1⟩
 have hb := (T1.on hb1).1
 clear T1 hb1 HC
 go_wp2
 go_ret
 exact mkNum rfl hb
set_option maxHeartbeats 1000000 in
theorem iCountHoles (w : World) (A : Option Addr) (n cap B : Nat) (xs : List Int) (hx : xs.length = n) (hn : (n : Int) ≤ 9223372036854775807) (h : RowB w B A xs) (hB : B ≤ w.heap.size) :
  Calls Tryz.prog 77 #[.agg #[.slice A n cap]] w (Num ((holN xs : Nat) : Int) w) := by
 have HOk := Lh (fun W (hb : Below w.heap.size w W) => iRegionOk W A n cap B xs hx hn (h.below hb hB) (by have := hb.size; omega))
 have HC := Lh (fun W (ho : okR xs) (hb : Below w.heap.size w W) => countParts A n cap xs hx hn false (.inl ho) W B (h.below hb hB) (by have := hb.size; omega))
 have T0 := Lh (fun T => rb_start (T := T) (.slice A n cap) w)
 clear hx hn h
 go_enter Tryz.func77, Tryz.ntmps77
 go_wp2_with fail
 have T1 := T0.out 26
 clear T0
 refine (HOk.out _ T1.1).mono ?_
 rintro e w1 ⟨rfl, hb1⟩
 have T2 := T1.on hb1
 clear T1 hb1 HOk
 obtain ⟨hbw, _, c0⟩ := id T2
 by_cases ho : okR xs
 ·have HC := Lh (fun W hb => HC.out W ho hb)
  have hv := partsV_false ho
  have hle := holN_le xs
  rw [okRB_of ho]
  generalize hz : ((partsV xs false : Nat) : Int) = z at HC hv
  have hz0 : 0 ≤ z := by omega
  have hz1 : z ≤ 101 := by omega
  have hz2 : z - 1 = ((holN xs : Nat) : Int) := by omega
  have HY := Lh hz2
  clear hz hv hle ho hz2
  go_wp2_with fail
  refine (HC.out _ hbw).mono ?_
  rintro e w2 ⟨rfl, hb2⟩
  have hb := (T2.on hb2).1
  clear hb2 HC T2 c0 hbw
  go_wp2
  go_ret
  exact mkNum HY.out hb
 ·have e : holN xs = 0 := by unfold holN; rw [if_neg ho]
  have HE := Lh (show (0 : Int) = ((holN xs : Nat) : Int) by rw [e]; rfl)
  rw [okRB_not ho]
  clear HC T2 e ho
  go_wp2
  go_ret
  exact mkNum HE.out hbw
end Go.Proofs.YtmajllgfmclcoaaGreatDoor.Flo
namespace Go.Proofs.YtmajllgfmclcoaaGreatDoor.Flo
open Go.RowKit Go.Proofs.YtmajllgfmclcoaaGreatDoor.Pure Euler Bal Go.Joins
def pieceR (xs : List Int) (x y : Int) : List (Int × Int) := if hasB xs x y then pieceTo xs (8 * y.toNat + x.toNat) 64 else []
theorem plC_io (j : Nat) : plC (io j) = cellI j := by
 unfold plC io cellI
 exact Prod.ext (by simp only; omega) (by simp only; omega)
theorem has_index {xs : List Int} {x y : Int} (h : hasB xs x y = true) : ∃ a, a < 64 ∧ a = 8 * y.toNat + x.toNat ∧ x = (plC (io a)).1 ∧ y = (plC (io a)).2 ∧ bitI xs a = true := by
 obtain ⟨ho, x0, x7, y0, y7, b⟩ := hasB_iff.1 h
 refine ⟨8 * y.toNat + x.toNat, by omega, rfl, ?_, ?_, ?_⟩
 ·rw [plC_io]; unfold cellI; simp only; omega
 ·rw [plC_io]; unfold cellI; simp only; omega
 ·unfold bitI
  rw [show (8 * y.toNat + x.toNat) / 8 = y.toNat by omega, show (8 * y.toNat + x.toNat) % 8 = x.toNat by omega]
  exact b
end Go.Proofs.YtmajllgfmclcoaaGreatDoor.Flo
namespace Go.Proofs.YtmajllgfmclcoaaGreatDoor.App
open Go.RowKit
section
variable {P : Program} (w : World)
theorem own_where {base e size n m cap g : Nat} {i : TypeInfo} {z : Value} {t ty : TypeId} {xs news : List Value} {ad : Addr} {c : Nat} {v' : Value} {w' : World}
  (ht : P.underlying t = some (.slice e)) (hi : P.info? e = some i) (hz : i.zero = some z) (hsize : i.size = size) (hzs : z.cells.size = size)
  (hown : w.ownsRow base e size (.slice (some ⟨g, 0, none⟩) n cap) n xs) (hl : news.length = m * size) (hnews : ∀ j u, news[j]? = some u → w.cell? (ad.add j) = some u) (h1 : ∀ u ∈ news, u.oneCell' = true)
  (h63 : n + m ≤ maxLen) (hbytes : (n + m) * i.bytes ≤ 140737488355328)
  (hr : (Builtin.append_ #[t, t] ty #[.slice (some ⟨g, 0, none⟩) n cap, .slice (some ad) m c]).run P w = .ok v' w') : v'.ownBlock = some g ∨ v'.ownBlock = some w.heap.size := by
 have hsmall : n + m ≤ 9223372036854775807 := by simp only [maxLen] at h63; omega
 obtain ⟨hx, hrest⟩ := hown
 subst hsize
 rcases hrest with ⟨q, _⟩ | ⟨g', cap', cur, q, _, hg, hnc, hcm, hcs, htk⟩
 ·cases q
 ·cases q
  by_cases hroom : n + m ≤ cap
  ·have hfit : n * i.size + news.length ≤ cur.size := by rw [hl, hcs, ← Nat.add_mul]; exact Nat.mul_le_mul_right _ hroom
   have h2 := run_append_room (P := P) w t ty e i ht hi g n cap cur hg ad m c news hl hnews h1 hroom hfit
   rw [hr] at h2
   injection h2 with hv _
   left; rw [hv]; rfl
  ·have holds : ∀ j u, xs[j]? = some u → w.cell? ((⟨g, 0, none⟩ : Addr).add j) = some u := World.ownsRow.cells (w := w) (base := 0) (e := e) (size := i.size) (v := .slice (some ⟨g, 0, none⟩) n cap) (n := n) ⟨hx, .inr ⟨g, cap, cur, rfl, Nat.zero_le _, hg, hnc, hcm, hcs, htk⟩⟩ rfl
   have h2 := run_append_grow (P := P) w t ty e i z ht hi hz ⟨g, 0, none⟩ n cap xs hx holds ad m c news hl hnews (by omega) (by omega) (growslice_fits (by omega) hbytes)
   rw [hr] at h2
   injection h2 with hv _
   right; rw [hv]; rfl
theorem wpList_append_at {ops : Array Oper} {rest : List Oper} {o : Oper} {a : Act} {Q : Exit → Act → World → Prop} (hgd : o.guard = none) (s x : Operand) (t : TypeId)
  (ho : o.op = .call { callee := .builtin .append, args := #[s, x], argTypes := #[t, t] })
  (base : Nat) (e : TypeId) (i : TypeInfo) (z : Value) (size bytes : Nat) (ht : P.underlying t = some (.slice e)) (hi : P.info? e = some i) (hz : i.zero = some z)
  (hsize : i.size = size) (hby : i.bytes = bytes) (hzs : z.cells.size = size) (hsz : 0 < size)
  (g cap n : Nat) (xs : List Value) (hs : a.eval s = .slice (some ⟨g, 0, none⟩) n cap) (hown : w.ownsRow base e size (.slice (some ⟨g, 0, none⟩) n cap) n xs)
  (ad : Addr) (m c : Nat) (news : List Value) (hx : a.eval x = .slice (some ad) m c) (hl : news.length = m * size) (hnews : ∀ j u, news[j]? = some u → w.cell? (ad.add j) = some u) (h1 : ∀ u ∈ news, u.oneCell' = true)
  (h63 : n + m ≤ maxLen) (hbytes : (n + m) * bytes ≤ 140737488355328) (hbase : base ≤ w.heap.size)
  (h : ∀ v' w', w'.ownsRow base e size v' (n + m) (xs ++ news) → w.grownBy w' (some g) → (v'.ownBlock = some g ∨ v'.ownBlock = some w.heap.size) → wpList P ops Q rest (a.put o.dst v') w') : wpList P ops Q (o :: rest) a w := by
 subst hby
 refine wpList_plain hgd fun K hK => ?_
 obtain ⟨v', w', hr, h2, h3, _⟩ := run_append_own (P := P) w base t o.type e i z size _ ht hi hz hsize rfl hzs hsz _ n xs hown ad m c news hl hnews h1 h63 hbytes hbase
 have h4 := own_where w ht hi hz hsize hzs hown hl hnews h1 h63 hbytes hr
 unfold Oper.wp execOp
 simp only [ho, resolve, invoke, builtin, Sem.run_bind, Sem.run_pure, Result.andThen_ok, List.map_toArray, List.map_cons, List.map_nil, hs, hx, hr]
 exact hK _ _ (h v' w' h2 h3 h4)
end
end Go.Proofs.YtmajllgfmclcoaaGreatDoor.App
