/- Sct in one text. -/
import Derived.Test.YtjfagpmklifjlaaMg10
import Derived.Test.YtjfagpmklifjlaaMg07
import Derived.Test.YtjfagpmklifjlaaMg00
import Derived.OwnWalk
import Derived.Laws.OwnMore
import Derived.StillTailTactics
import Derived.Deep.CutRange

namespace Go.Proofs.Ytjfagpmklifjlaa.Cnt
set_option linter.unusedVariables false
set_option linter.unusedSimpArgs false
open Go.RowKit Go.Proofs.Ytjfagpmklifjlaa.Base Go.Proofs.Ytjfagpmklifjlaa.Pure Go.Proofs.Ytjfagpmklifjlaa.Cell Go.Proofs.Ytjfagpmklifjlaa.Reg Go.Joins

theorem own_cell {w : World} {base e size n g c : Nat} {xs : List Value} (h : w.ownsRow base e size (.slice (some ⟨g, 0, none⟩) n c) n xs) {j : Nat} {u : Value} (hj : xs[j]? = some u) : w.cell? ⟨g, j, none⟩ = some u := by
 have := h.cells (g := g) rfl j u hj
 rwa [add_plain] at this

def rowN (a : Nat → Int) : List Value := (List.range 256).map fun i => .int .i64 (a i)
theorem rowN_length (a : Nat → Int) : (rowN a).length = 256 := by unfold rowN; rw [List.length_map, List.length_range]
theorem rowN_at (a : Nat → Int) {i : Nat} (h : i < 256) : (rowN a)[i]? = some (.int .i64 (a i)) := by unfold rowN; simp [List.getElem?_range h]
theorem rowN_zero : rowN (fun _ => 0) = List.replicate 256 (.int .i64 0) := by
 refine List.eq_replicate_iff.2 ⟨rowN_length _, fun v hv => ?_⟩
 obtain ⟨i, _, e⟩ := List.mem_map.1 hv
 exact e.symm
theorem rowN_set (a : Nat → Int) {t : Nat} (ht : t < 256) (x : Int) : (rowN a).set t (.int .i64 x) = rowN (upd a t x) := by
 apply List.ext_getElem?
 intro i
 by_cases hi : i < 256
 ·rw [rowN_at _ hi]
  by_cases e : t = i
  ·subst e; rw [List.getElem?_set_self (by rw [rowN_length]; omega), upd_at]
  ·rw [List.getElem?_set_ne e, rowN_at _ hi, upd_ne (fun q => e q.symm)]
 ·rw [List.getElem?_eq_none (by rw [List.length_set, rowN_length]; omega), List.getElem?_eq_none (by rw [rowN_length]; omega)]
def NumO (W : World) (base b : Nat) (a : Nat → Int) : Prop := W.ownsRow base 3 1 (.slice (some ⟨b, 0, none⟩) 256 256) 256 (rowN a)
theorem NumO.on {W W' : World} {base b : Nat} {a : Nat → Int} (h : NumO W base b a) (hb : Below W.heap.size W W') : NumO W' base b a := own_below h hb (Nat.le_refl _)
theorem NumO.cell {W : World} {base b : Nat} {a : Nat → Int} (h : NumO W base b a) {i : Nat} (hi : i < 256) : W.cell? ⟨b, i, none⟩ = some (.int .i64 (a i)) := own_cell h (rowN_at a hi)
theorem NumO.froz {W : World} {base b : Nat} {a : Nat → Int} (h : NumO W base b a) (i : Nat) : W.frozen? ⟨b, i, none⟩ = false := h.frozenAt i
theorem NumO.set {W : World} {base b : Nat} {a : Nat → Int} (h : NumO W base b a) {t : Nat} (ht : t < 256) (x : Int) : NumO (W.setCell ⟨b, t, none⟩ (.int .i64 x)) base b (upd a t x) := by
 have := (h.stored t (.int .i64 x)).1
 rw [rowN_set a ht x] at this
 exact this
theorem NumO.lt {W : World} {base b : Nat} {a : Nat → Int} (h : NumO W base b a) : base ≤ b ∧ b < W.heap.size := World.ownsRow.lt h b rfl
theorem num_made {W W0 : World} {base b : Nat} (h : W.ownsRow base 3 1 (.slice (some ⟨b, 0, none⟩) 256 256) 256 (madeCells (Value.int .i64 0).cells (256 * 1)).toList) : NumO W base b (fun _ => 0) := by
 rw [show (Value.int .i64 0).cells = #[.int .i64 0] from rfl, Nat.mul_one, toList_madeCells_one, ← rowN_zero] at h
 exact h
def O1 (w : World) (v : Value) (W : World) : Prop := Below w.heap.size w W ∧ w.heap.size + 1 ≤ W.heap.size ∧ W.cell? ⟨w.heap.size, 0, none⟩ = some v
theorem O1.on {w W W' : World} {v : Value} (h : O1 w v W) (hb : Below W.heap.size W W') : O1 w v W' := by
 obtain ⟨h0, h1, h2⟩ := h
 have := hb.size
 exact ⟨h0.trans (hb.mono (by omega)), by omega, (hb.cell (by show w.heap.size < _; omega)).trans h2⟩
theorem O1.put {w W : World} {v : Value} {b : Nat} (h : O1 w v W) (hb : w.heap.size < b) (t : Nat) (u : Value) : O1 w v (W.setCell ⟨b, t, none⟩ u) := by
 obtain ⟨h0, h1, h2⟩ := h
 have hbs := (Below.refl b W).setCell (p := ⟨b, t, none⟩) (Nat.le_refl _) u
 have := hbs.size
 exact ⟨h0.trans (hbs.mono (by omega)), by omega, (hbs.cell (by show w.heap.size < _; omega)).trans h2⟩
theorem wrap64_wrap (x : Int) : wrap64 (wrap64 x) = wrap64 x := by unfold wrap64; omega
def wfN (a : Nat → Int) : Prop := ∀ i, wrap64 (a i) = a i
theorem wfN.upd {a : Nat → Int} (h : wfN a) (t : Nat) (x : Int) : wfN (upd a t (wrap64 x)) := fun i => by
 unfold Cnt.upd
 by_cases e : i = t
 ·rw [if_pos e]; exact wrap64_wrap x
 ·rw [if_neg e]; exact h i
theorem wfN_zero : wfN (fun _ => 0) := fun i => by show wrap64 0 = 0; unfold wrap64; omega
theorem cell_idx {k : Nat} (hk : k < 64) : atX (k : Int) = ((k % 8 : Nat) : Int) ∧ atY (k : Int) = ((k / 8 : Nat) : Int) ∧ inB (k : Int) 0 63 = true := by
 obtain ⟨h1, h2, h3⟩ := at_in (n := (k : Int)) (by omega) (by omega)
 exact ⟨by rw [h1]; omega, by rw [h2]; omega, h3⟩
theorem o1_start (w : World) (v : Value) (T : TypeId) : O1 w v (w.alloc (.cells #[v] T)) := by
 refine ⟨below_alloc1 w _, by simp, ?_⟩
 have hbl : (w.alloc (.cells #[v] T)).heap[w.heap.size]? = some (.cells #[v] T) := by
  show (w.heap.push _)[w.heap.size]? = _
  exact Array.getElem?_push_size
 exact (cell_of_row _ _ 0 _ _ _ hbl).trans rfl
theorem powW {x : Nat} (hx : x < 8) : wrap64 ((2 : Int) ^ x) = 2 ^ x ∧ IntKind.i64.wrap ((2 : Int) ^ x) = 2 ^ x := by
 have hcs : x = 0 ∨ x = 1 ∨ x = 2 ∨ x = 3 ∨ x = 4 ∨ x = 5 ∨ x = 6 ∨ x = 7 := by omega
 rcases hcs with rfl | rfl | rfl | rfl | rfl | rfl | rfl | rfl <;> exact ⟨by unfold wrap64; decide, by rw [IntKind.wrap_i64]; decide⟩
theorem intInfo7 : (Try.prog.info? 3).map (fun i => (i.zero, i.size, i.bytes)) = some (some (.int .i64 0), 1, 8) := by kernel_rfl
theorem NumO.far {W : World} {base b p i : Nat} {a : Nat → Int} (h : NumO W base b a) (hp : b ≠ p) (u : Value) : NumO (W.setCell ⟨p, i, none⟩ u) base b a :=
 World.ownsRow.kept h (row := some p) ⟨rfl, rfl, rfl, by simp [World.setCell], fun j hj hne => Below.heap_setCell W _ u j (fun q => hne (by rw [q]))⟩ (.inr (fun q => by injection q with q; exact hp q))
def SC (w : World) (v : Value) (b : Nat) (a : Nat → Int) (b2 : Nat) (a2 : Nat → Int) (p x y : Nat) (W : World) : Prop :=
 O1 w v W ∧ NumO W (w.heap.size + 1) b a ∧ NumO W (w.heap.size + 1) b2 a2 ∧ b ≠ b2 ∧ W.heap[p]? = some (.cells #[.int .i64 (x : Int), .int .i64 (y : Int)] 38) ∧ p ≠ b2 ∧ w.heap.size + 1 ≤ p
section
variable {w W W' : World} {v : Value} {b b2 p x y : Nat} {a a2 : Nat → Int}
theorem SC.on (h : SC w v b a b2 a2 p x y W) (hb : Below W.heap.size W W') : SC w v b a b2 a2 p x y W' :=
 ⟨h.1.on hb, h.2.1.on hb, h.2.2.1.on hb, h.2.2.2.1, (hb.block p (Array.getElem?_eq_some_iff.1 h.2.2.2.2.1).1).trans h.2.2.2.2.1, h.2.2.2.2.2⟩
theorem SC.drew (h : SC w v b a b2 a2 p x y W) : SC w v b a b2 a2 p x y W.drew := h.on (drewN_below (Below.refl _ _) 1)
theorem SC.set (h : SC w v b a b2 a2 p x y W) {t : Nat} (ht : t < 256) (u : Int) : SC w v b a b2 (upd a2 t u) p x y (W.setCell ⟨b2, t, none⟩ (.int .i64 u)) :=
 ⟨h.1.put (by have := h.2.2.1.lt; omega) t _, h.2.1.far h.2.2.2.1 _, h.2.2.1.set ht u, h.2.2.2.1, (Below.heap_setCell W _ _ p h.2.2.2.2.2.1).trans h.2.2.2.2.1, h.2.2.2.2.2⟩
theorem SC.cells (h : SC w v b a b2 a2 p x y W) : W.cell? ⟨w.heap.size, 0, none⟩ = some v ∧ W.cell? ⟨p, 0, none⟩ = some (.int .i64 (x : Int)) ∧ W.cell? ⟨p, 1, none⟩ = some (.int .i64 (y : Int)) :=
 ⟨h.1.2.2, (cellAt h.2.2.2.2.1 0).1.trans rfl, (cellAt h.2.2.2.2.1 1).1.trans rfl⟩
theorem SC.at2 (h : SC w v b a b2 a2 p x y W) {t : Nat} (ht : t < 256) : W.cell? ⟨b2, t, none⟩ = some (.int .i64 (a2 t)) ∧ W.frozen? ⟨b2, t, none⟩ = false := ⟨h.2.2.1.cell ht, h.2.2.1.froz t⟩
end
theorem wrap_is (x : Int) : IntKind.i64.wrap x = wrap64 x := by rw [IntKind.wrap_i64]; unfold wrap64; first | rfl | omega
theorem wrap_succ {x x1 : Nat} (h : x < 1000) (e : x1 = x + 1) : wrap64 ((x : Int) + 1) = (x1 : Int) := by subst e; unfold wrap64; omega
theorem wrap_succ2 {x x1 : Nat} (h : x < 1000) (e : x1 = x + 1) : IntKind.i64.wrap ((x : Int) + 1) = (x1 : Int) := by rw [wrap_is]; exact wrap_succ h e
theorem wrap_sub {s s1 x : Nat} (h : s < 256) (hx : x < 8) (hb : s.testBit x = true) (e : s1 = s - 2 ^ x) : wrap64 ((s : Int) - 2 ^ x) = (s1 : Int) := by
 have h1 := (bit_sub s h x hx hb).1
 rw [state_sub h hx hb, ← e]; rw [← e] at h1; unfold wrap64; omega
theorem dn_is {g : Nat → Bool} {k s x t : Nat} {q : Int} {a2 : Nat → Int} {db : Bool} (hx : x = k % 8) (hd : db = g (k + 8)) (e : t = s + 2 ^ x) : dn g k s q a2 = if db = true then upd a2 t (wrap64 (a2 t + q)) else a2 := by
 unfold dn; rw [← hx, ← hd, e]
theorem rt_is {g : Nat → Bool} {k s x x1 : Nat} {q : Int} {a3 : Nat → Int} {rb rx : Bool} (hx : x = k % 8) (hx8 : x < 8) (h1 : x1 = x + 1) (hr : rb = g (k + 1)) (hrx : rx = (decide (x1 < 8) && (rb && !s.testBit x1))) : rt g k s q a3 = if rx = true then upd a3 (s + 2 ^ x1) (wrap64 (a3 (s + 2 ^ x1) + q)) else a3 := by
 have e : (k % 8 ≠ 7 ∧ g (k + 1) = true ∧ s.testBit (k % 8 + 1) = false) ↔ rx = true := by
  rw [hrx, ← hr, ← hx, h1]
  simp only [Bool.and_eq_true, decide_eq_true_eq, Bool.not_eq_true']
  constructor
  ·rintro ⟨q1, q2, q3⟩; exact ⟨by omega, q2, q3⟩
  ·rintro ⟨q1, q2, q3⟩; exact ⟨by omega, q2, q3⟩
 unfold rt
 by_cases r : rx = true
 ·rw [if_pos (e.2 r), if_pos r, ← hx, ← h1]
 ·rw [if_neg (fun t => r (e.1 t)), if_neg r]
theorem rx_is {s x1 : Nat} {rb rx : Bool} (h : s < 256) (hrx : rx = (decide (x1 < 8) && (rb && !s.testBit x1))) (e : rx = true) : x1 < 8 ∧ s + 2 ^ x1 < 256 ∧ bits .or .i64 (s : Int) (2 ^ x1) = ((s + 2 ^ x1 : Nat) : Int) := by
 rw [hrx] at e
 simp only [Bool.and_eq_true, decide_eq_true_eq, Bool.not_eq_true'] at e
 exact ⟨e.1, (bit_add s h x1 e.1 e.2.2).1, state_or h e.1 e.2.2⟩
theorem shr_is {s x1 : Nat} (h : s < 256) (e : x1 < 8) : bits .and .i64 ((s : Int) / 2 ^ x1) 1 = if s.testBit x1 = true then 1 else 0 := by
 cases e2 : s.testBit x1 with
 | true => rw [if_pos rfl]; exact state_shr1 h e e2
 | false => rw [if_neg (by simp)]; exact state_shr0 h e e2
theorem ok_down {x y1 : Nat} (hx : x < 8) : okB (x : Int) (y1 : Int) = decide (y1 < 8) := by rw [Bool.eq_iff_iff, okB_iff, decide_eq_true_iff]; unfold Ok; omega
theorem ok_right {x1 y : Nat} (hy : y < 8) : okB (x1 : Int) (y : Int) = decide (x1 < 8) := by rw [Bool.eq_iff_iff, okB_iff, decide_eq_true_iff]; unfold Ok; omega
theorem out_down {g : Nat → Bool} (hg : ∀ j, 64 ≤ j → g j = false) {k y y1 : Nat} {db : Bool} (hy : y = k / 8) (h1 : y1 = y + 1) (hd : db = g (k + 8)) (h8 : ¬ y1 < 8) : db = false := by rw [hd]; exact hg _ (by omega)
theorem idx_down {k x y y1 : Nat} (hx : x = k % 8) (hy : y = k / 8) (h1 : y1 = y + 1) (h8 : y1 < 8) : k + 8 < 64 ∧ x = (k + 8) % 8 ∧ y1 = (k + 8) / 8 := by omega
theorem idx_right {k x y x1 : Nat} (hk : k < 64) (hx : x = k % 8) (hy : y = k / 8) (h1 : x1 = x + 1) (h8 : x1 < 8) : k + 1 < 64 ∧ x1 = (k + 1) % 8 ∧ y = (k + 1) / 8 := by omega
theorem cast_lt {t n : Nat} (h : t < n) : (t : Int) < (n : Int) := by omega
theorem has_idx (xs : List Int) {k x y : Nat} (hk : k < 64) (hx : x = k % 8) (hy : y = k / 8) : bitB (rowD xs y) x = gR xs k := by rw [gR_in hk, hx, hy]

set_option maxRecDepth 100000 in
set_option maxHeartbeats 4000000 in
theorem sCount (w : World) (A : Option Addr) (n cap B : Nat) (xs : List Int) (hx : xs.length = n) (ho : okR xs) (h : RowB w B A xs) (hB : B ≤ w.heap.size) :
  Calls Try.prog 60 #[.agg #[.slice A n cap]] w (Num (wrap64 (tiles (gR xs) : Nat)) w) := by
 obtain ⟨i0, hi, hz0, hz1, hz2⟩ := info_parts intInfo7
 have HS := Lib.hid (o1_start w (.slice A n cap))
 have HH := Lib.hid (fun W (hb : Below w.heap.size w W) x y (hx8 : x < 8) (hy8 : y < 8) => sHas W A n cap B xs hx ho (h.below hb hB) (by have := hb.size; omega) x y hx8 hy8)
 have HG := Lib.hid (gR_out xs)
 have HGi := Lib.hid (fun k x y => has_idx xs (k := k) (x := x) (y := y))
 clear hx ho h hB
 generalize gR xs = g at HG HGi ⊢
 go_enter Try.func60, Try.ntmps60
 have hs0 : (w.alloc (.cells #[.slice A n cap] 26)).heap.size = w.heap.size + 1 := by simp
 go_wp2_with (first
  | (at_make; refine wpList_make_full _ rfl _ _ 24 rfl (w.heap.size + 1) 3 i0 (.int .i64 0) 1 Try.underlying24 hi hz0 hz1 .i64 .i64 256 256 256 rfl rfl (by rfl) (by rfl) (by rw [hz2]; omega) (by unfold maxLen; omega) (by simp) ?_; intro w1 hown1 hg1; (have hN1 : NumO w1 (w.heap.size + 1) (w.alloc (.cells #[.slice A n cap] 26)).heap.size (fun _ => 0) := num_made (W0 := w) hown1); (rw [hs0] at hN1); (have hc1 := hN1.cell (i := 0) (by omega)); (have hf1 := hN1.froz 0); clear hown1))
 have hb1 := (Below.refl (w.alloc (.cells #[.slice A n cap] 26)).heap.size (w.alloc (.cells #[.slice A n cap] 26))).grown hg1 (Nat.le_refl _) (by simp)
 have T1 := Lib.hid (((HS.out _).on hb1).put (b := w.heap.size + 1) (by omega) 0 (.int .i64 1))
 have N1 := Lib.hid (hN1.set (t := 0) (by omega) 1)
 have W1 := Lib.hid (show wfN (upd (fun _ => 0) 0 1) from by have := wfN.upd wfN_zero 0 1; rwa [show wrap64 1 = 1 by unfold wrap64; omega] at this)
 have I1 := Lib.hid (show Inv g 0 (upd (fun _ => 0) 0 1) from Inv.start HG.out (upd_at _ _ _) (fun i _ hne => upd_ne hne))
 clear hb1 hg1 hN1 hc1 hf1 HS
 go_loopw [4, 5] (fun wv kv wr => ∃ (k b : Nat) (a : Nat → Int), k ≤ 64 ∧ kv = .int .i64 (k : Int) ∧ wv = .slice (some ⟨b, 0, none⟩) 256 256 ∧ NumO wr (w.heap.size + 1) b a ∧ Inv g k a ∧ O1 w (.slice A n cap) wr ∧ wfN a) (fun _ kv _ => 64 - (intOf kv).toNat)
 case atStart => exact ⟨0, _, _, by omega, rfl, rfl, N1.out, I1.out, T1.out, W1.out⟩
 case round =>
  clear N1 I1 T1 W1
  obtain ⟨k, b, a, hk, rfl, rfl, N1, I1, T1, W1⟩ := hrel
  by_cases hlt : k < 64
  ·have HI := Lib.hid I1
   have HN := Lib.hid N1
   have HT := Lib.hid T1
   have HW := Lib.hid W1
   obtain ⟨x, hx⟩ : ∃ x, x = k % 8 := ⟨_, rfl⟩
   obtain ⟨y, hy⟩ : ∃ y, y = k / 8 := ⟨_, rfl⟩
   have HCA := Lib.hid (fun W => show Calls Try.prog 50 #[.int .i64 (k : Int)] W (CelB (x : Int) (y : Int) true W) from by
    have := sCellAt (k : Int) W
    rw [(cell_idx hlt).1, (cell_idx hlt).2.1, (cell_idx hlt).2.2, ← hx, ← hy] at this
    exact this)
   have hkx : (k : Int) % 8 = (x : Int) := by omega
   have hx8 : x < 8 := by omega
   have hy8 : y < 8 := by omega
   have HX := Lib.hid hx
   have HY := Lib.hid hy
   have hT := N1.lt
   clear N1 I1 T1 W1 hx hy
   go_wp2_with fail
   refine (HCA.out _).mono ?_
   rintro e w2 ⟨rfl, hb2⟩
   have hsz2 := hb2.size
   have T2 := Lib.hid (HT.out.on hb2)
   have N2 := Lib.hid (HN.out.on hb2)
   clear HT HN hb2 HCA
   go_upto_region 9 with fail
   have hbl := heap_alloc_new w2 (.cells #[.int .i64 (x : Int), .int .i64 (y : Int)] 38)
   have hba := below_alloc1 w2 (.cells #[.int .i64 (x : Int), .int .i64 (y : Int)] 38)
   have T3 := T2.out.on hba
   have N3 := N2.out.on hba
   have hp1 : w.heap.size + 1 ≤ w2.heap.size := T2.out.2.1
   generalize w2.alloc (.cells #[.int .i64 (x : Int), .int .i64 (y : Int)] 38) = W3 at hbl hba T3 N3 ⊢
   generalize w2.heap.size = p at hbl hp1 ⊢
   have hpl := (Array.getElem?_eq_some_iff.1 hbl).1
   have hbl3 := N3.lt
   have hbl4 : b < W3.heap.size := World.ownsRow.lt N3 b rfl |>.2
   clear T2 N2 hba hsz2
   go_wp2_with (first
    | (at_make; refine wpList_make_full _ rfl _ _ 24 rfl (w.heap.size + 1) 3 i0 (.int .i64 0) 1 Try.underlying24 hi hz0 hz1 .i64 .i64 256 256 256 rfl rfl (by rfl) (by rfl) (by rw [hz2]; omega) (by unfold maxLen; omega) (by omega) ?_; intro W4 hown4 hg4))
   have S4 := Lib.hid (show SC w (.slice A n cap) b a W3.heap.size (fun _ => 0) p x y W4 from
    ⟨T3.on ((Below.refl W3.heap.size W3).grown hg4 (Nat.le_refl _) (by simp)), World.ownsRow.kept N3 hg4 (.inr (fun e => by cases e)), num_made (W0 := w) hown4, by omega, (hg4.block p hpl (by simp)).trans hbl, by omega, by omega⟩)
   have HSt0 := Lib.hid (St.start g (63 - k) k a)
   generalize W3.heap.size = b2 at S4 HSt0 ⊢
   clear T3 N3 hbl hpl hbl3 hbl4 hown4 hg4 hp1 hs0 hT
   go_loopw [10] (fun sv wr => ∃ (s : Nat) (a2 : Nat → Int), s ≤ 256 ∧ sv = .int .i64 (s : Int) ∧ SC w (.slice A n cap) b a b2 a2 p x y wr ∧ St g (63 - k) k a a2 s ∧ wfN a2) (fun sv _ => 256 - (intOf sv).toNat)
   case atStart => exact ⟨0, _, by omega, rfl, S4.out, HSt0.out, wfN_zero⟩
   case round =>
    clear S4 HSt0
    obtain ⟨s, a2, hs, rfl, S1, P1, V1⟩ := hrel
    by_cases hlt2 : s < 256
    ·have HS := Lib.hid S1
     have HP := Lib.hid P1
     have HV := Lib.hid V1
     have hcs := S1.2.1.cell hlt2
     clear P1 V1
     obtain ⟨q, hq⟩ : ∃ q, q = a s := ⟨_, rfl⟩
     rw [← hq] at hcs
     have HQ := Lib.hid hq
     clear hq
     by_cases hq0 : q = 0
     ·subst hq0
      have HN := Lib.hid (HP.out.skip HQ.out.symm)
      clear S1
      go_wp2
      go_roundw
      case rel => exact ⟨s + 1, a2, by omega, by go_num, HS.out, HN.out, HV.out⟩
      case measure => (simp [intOf] <;> omega)
     ·have HHk := Lib.hid (fun W (hb : Below w.heap.size w W) => show Calls Try.prog 51 #[.agg #[.slice A n cap], .agg #[.int .i64 (x : Int), .int .i64 (y : Int)]] W (Bol (g k) W) from by
       have := HH.out W hb x y hx8 hy8
       rwa [HGi.out k x y hlt HX.out HY.out] at this)
      obtain ⟨hp1, hp2⟩ := powW hx8
      have hxI : (x : Int) < 64 := by omega
      cases hb : s.testBit x with
      | true =>
       have hsh := state_shr1 hlt2 hx8 hb
       have hsb := state_sub hlt2 hx8 hb
       have hs1 := (bit_sub s hlt2 x hx8 hb).1
       have HCov := Lib.hid (fun (hg : g k = true) => show St g (63 - k) k a (upd a2 (s - 2 ^ x) (wrap64 (a2 (s - 2 ^ x) + q))) (s + 1) from by
        have := HP.out.cov hlt2 hg (by rw [← HX.out]; exact hb)
        rwa [← HX.out, ← HQ.out] at this)
       have HOut := Lib.hid (fun (hg : g k = false) => HP.out.out hg (by rw [← HX.out]; exact hb))
       have hsub : wrap64 ((s : Int) - 2 ^ x) = ((s - 2 ^ x : Nat) : Int) := wrap_sub hlt2 hx8 hb rfl
       generalize s - 2 ^ x = s1 at hs1 HCov hsub hsb
       clear hsb
       obtain ⟨cr, cx, cy⟩ := S1.cells
       have h1b := S1.1.1
       clear S1
       go_wp2_with fail
       refine (HHk.out _ h1b).mono ?_
       rintro e w5 ⟨rfl, hb5⟩
       have S5 := HS.out.on hb5
       simp only [hsub]
       clear h1b hb5 cr cx cy hcs HHk HS
       cases hg : g k with
       | true =>
        have HN := Lib.hid (HCov.out hg)
        obtain ⟨ct, ft⟩ := S5.at2 hs1
        have HS6 := Lib.hid (S5.set hs1 (wrap64 (a2 s1 + q)))
        have HV6 := Lib.hid (HV.out.upd s1 (a2 s1 + q))
        clear S5 HP HOut HCov
        go_wp2
        go_roundw
        case rel => exact ⟨s + 1, _, by omega, by go_num, HS6.out, HN.out, HV6.out⟩
        case measure => (simp [intOf] <;> omega)
       | false =>
        have HN := Lib.hid (HOut.out hg)
        have HS6 := Lib.hid S5
        clear S5 HP HOut HCov
        go_wp2
        go_roundw
        case rel => exact ⟨s + 1, a2, by omega, by go_num, HS6.out, HN.out, HV.out⟩
        case measure => (simp [intOf] <;> omega)
      | false =>
       have hsh := state_shr0 hlt2 hx8 hb
       have HNo := Lib.hid (fun (hg : g k = false) => show St g (63 - k) k a (upd a2 s (wrap64 (a2 s + q))) (s + 1) from by
        have := HP.out.no hlt2 hg (by rw [← HX.out]; exact hb)
        rwa [← HQ.out] at this)
       have HTwo := Lib.hid (fun (hg : g k = true) => show St g (63 - k) k a (rt g k s q (dn g k s q a2)) (s + 1) from by
        have := HP.out.two hlt2 hg (by rw [← HX.out]; exact hb)
        rwa [← HQ.out] at this)
       obtain ⟨cr, cx, cy⟩ := S1.cells
       have h1b := S1.1.1
       clear S1
       go_wp2_with fail
       refine (HHk.out _ h1b).mono ?_
       rintro e w5 ⟨rfl, hb5⟩
       have S5 := HS.out.on hb5
       clear h1b hb5 cr cx cy hcs HHk HS
       cases hg : g k with
       | false =>
        have HN := Lib.hid (HNo.out hg)
        obtain ⟨ct, ft⟩ := S5.at2 hlt2
        have HS6 := Lib.hid (S5.set hlt2 (wrap64 (a2 s + q)))
        have HV6 := Lib.hid (HV.out.upd s (a2 s + q))
        clear S5 HP HNo HTwo
        go_wp2
        go_roundw
        case rel => exact ⟨s + 1, _, by omega, by go_num, HS6.out, HN.out, HV6.out⟩
        case measure => (simp [intOf] <;> omega)
       | true =>
        have HN := Lib.hid (HTwo.out hg)
        clear HP HNo HTwo hsh
        obtain ⟨y1, hy1⟩ : ∃ y1, y1 = y + 1 := ⟨_, rfl⟩
        obtain ⟨x1, hx1⟩ : ∃ x1, x1 = x + 1 := ⟨_, rfl⟩
        have hwy : wrap64 ((y : Int) + 1) = (y1 : Int) := wrap_succ (Nat.lt_trans hy8 (by decide)) hy1
        have hwx : wrap64 ((x : Int) + 1) = (x1 : Int) := wrap_succ (Nat.lt_trans hx8 (by decide)) hx1
        have hwx2 : IntKind.i64.wrap ((x : Int) + 1) = (x1 : Int) := wrap_succ2 (Nat.lt_trans hx8 (by decide)) hx1
        obtain ⟨db, hdb⟩ : ∃ db, db = g (k + 8) := ⟨_, rfl⟩
        obtain ⟨rb, hrb⟩ : ∃ rb, rb = g (k + 1) := ⟨_, rfl⟩
        obtain ⟨rx, hrx⟩ : ∃ rx, rx = (decide (x1 < 8) && (rb && !s.testBit x1)) := ⟨_, rfl⟩
        have HDn := Lib.hid (dn_is (s := s) (q := q) (a2 := a2) HX.out hdb rfl)
        have HRt := Lib.hid (fun a3 => rt_is (s := s) (q := q) (a3 := a3) HX.out hx8 hx1 hrb hrx)
        have HCk := Lib.hid (fun W => show Calls Try.prog 89 #[.agg #[.int .i64 (x : Int), .int .i64 (y1 : Int)]] W (Bol (decide (y1 < 8)) W) from by
         have := sCellOk (x : Int) (y1 : Int) W
         rwa [ok_down hx8] at this)
        have HCl := Lib.hid (fun W => show Calls Try.prog 89 #[.agg #[.int .i64 (x1 : Int), .int .i64 (y : Int)]] W (Bol (decide (x1 < 8)) W) from by
         have := sCellOk (x1 : Int) (y : Int) W
         rwa [ok_right hy8] at this)
        have HHd := Lib.hid (fun W (hb : Below w.heap.size w W) (h8 : y1 < 8) => show Calls Try.prog 51 #[.agg #[.slice A n cap], .agg #[.int .i64 (x : Int), .int .i64 (y1 : Int)]] W (Bol db W) from by
         have := HH.out W hb x y1 hx8 h8
         obtain ⟨u1, u2, u3⟩ := idx_down HX.out HY.out hy1 h8
         rwa [HGi.out (k + 8) x y1 u1 u2 u3, ← hdb] at this)
        have HHr := Lib.hid (fun W (hb : Below w.heap.size w W) (h8 : x1 < 8) => show Calls Try.prog 51 #[.agg #[.slice A n cap], .agg #[.int .i64 (x1 : Int), .int .i64 (y : Int)]] W (Bol rb W) from by
         have := HH.out W hb x1 y h8 hy8
         obtain ⟨u1, u2, u3⟩ := idx_right hlt HX.out HY.out hx1 h8
         rwa [HGi.out (k + 1) x1 y u1 u2 u3, ← hrb] at this)
        have HD0 := Lib.hid (fun (h8 : ¬ y1 < 8) => out_down HG.out HY.out hy1 hdb h8)
        have hq1 := (bit_add s hlt2 x hx8 hb).1
        have hor := state_or hlt2 hx8 hb
        have HRX := Lib.hid hrx
        have HR1 := Lib.hid (fun (e : rx = true) => rx_is hlt2 hrx e)
        have HSh := Lib.hid (fun (e : x1 < 8) => shr_is hlt2 e)
        generalize s + 2 ^ x = t at HDn hor hq1
        clear hdb hrb hrx hy1 hx1 hx8 hy8
        obtain ⟨cr, cx, cy⟩ := S5.cells
        go_upto_region 25 with fail
        try simp only [hwy]
        have hbl := heap_alloc_new w5 (.cells #[.int .i64 (x : Int), .int .i64 (y1 : Int)] 38)
        have S6 := S5.on (below_alloc1 w5 (.cells #[.int .i64 (x : Int), .int .i64 (y1 : Int)] 38))
        generalize w5.alloc (.cells #[.int .i64 (x : Int), .int .i64 (y1 : Int)] 38) = W6 at hbl S6 ⊢
        generalize w5.heap.size = p6 at hbl ⊢
        clear S5 cr cx cy
        go_cut [99] from 39 to 152 (fun v wc => v = .bool db ∧ SC w (.slice A n cap) b a b2 a2 p x y wc)
        case first =>
         obtain ⟨cr, cx, cy⟩ := S6.cells
         have c0 := (cellAt hbl 0).1.trans (show _ = some (Value.int .i64 (x : Int)) from rfl)
         have c1 := (cellAt hbl 1).1.trans (show _ = some (Value.int .i64 (y1 : Int)) from rfl)
         go_wp2_with fail
         refine (HCk.out _).mono ?_
         rintro e w7 ⟨rfl, hb7⟩
         have S7 := S6.on hb7
         have hbl7 := (hb7.block p6 (Array.getElem?_eq_some_iff.1 hbl).1).trans hbl
         clear c0 c1 cr cx cy S6 hbl hb7
         by_cases h8 : y1 < 8
         ·rw [decide_eq_true h8]
          obtain ⟨cr, cx, cy⟩ := S7.cells
          have c0 := (cellAt hbl7 0).1.trans (show _ = some (Value.int .i64 (x : Int)) from rfl)
          have c1 := (cellAt hbl7 1).1.trans (show _ = some (Value.int .i64 (y1 : Int)) from rfl)
          go_wp2_with fail
          refine (HHd.out _ S7.1.1 h8).mono ?_
          rintro e w8 ⟨rfl, hb8⟩
          have S8 := S7.on hb8
          clear S7 c0 c1 cr cx cy hbl7 hb8
          go_wp2_with fail
          go_meet
          exact ⟨rfl, S8⟩
         ·rw [decide_eq_false h8]
          have hd0 := HD0.out h8
          go_wp2_with fail
          go_meet
          exact ⟨by rw [hd0], S7⟩
        case rest =>
         clear S6 hbl
         obtain ⟨hu, S6⟩ := hcut
         subst hu
         go_upto_if 99 with fail
         go_cut [] from 39 to 152 (fun wc => ∃ a3, SC w (.slice A n cap) b a b2 a3 p x y wc ∧ wfN a3 ∧ St g (63 - k) k a (rt g k s q a3) (s + 1))
         case first =>
          cases db with
          | true =>
           have HN2 := Lib.hid (show St g (63 - k) k a (rt g k s q (upd a2 t (wrap64 (a2 t + q)))) (s + 1) from by have := HN.out; rwa [HDn.out, if_pos rfl] at this)
           obtain ⟨ct, ft⟩ := S6.drew.at2 hq1
           have HS7 := Lib.hid (S6.drew.set hq1 (wrap64 (a2 t + q)))
           have HV7 := Lib.hid (HV.out.upd t (a2 t + q))
           have hqI : (t : Int) < 256 := cast_lt hq1
           clear S6 HN HDn
           go_wp2_with fail
           refine wp_region_noPanic ?_
           refine wp_region_held_drew (S := fun _ => True) (by kernel_rfl) trivial (fun hHeld => ?_)
           refine wpAnyH_take (i := 0) (v := ?_) rfl (by kernel_rfl) (by kernel_rfl) (by kernel_rfl) (fun _ _ _ h => h) (Or.inl ⟨by rfl, ?_⟩) (by assumption) ?_
           rotate_left
           ·(intro w' hS; (try dsimp only at hS); go_simp; try with_reducible rfl)
           try simp only [Act.put, List.getElem_toArray, List.getElem_cons_succ, List.getElem_cons_zero, List.setIfInBounds_toArray, List.set_cons_zero, List.set_cons_succ]
           refine wpAnyH_take (i := 1) (v := ?_) rfl (by kernel_rfl) (by kernel_rfl) (by kernel_rfl) (fun _ _ _ h => h) (Or.inl ⟨by rfl, ?_⟩) (by assumption) ?_
           rotate_left
           ·(intro w' hS; (try dsimp only at hS); go_simp; try with_reducible rfl)
           try simp only [Act.put, List.getElem_toArray, List.getElem_cons_succ, List.getElem_cons_zero, List.setIfInBounds_toArray, List.set_cons_zero, List.set_cons_succ]
           refine wpAnyH_take (i := 2) (v := ?_) rfl (by kernel_rfl) (by kernel_rfl) (by kernel_rfl) (fun _ _ _ h => h) (Or.inl ⟨by rfl, ?_⟩) (by assumption) ?_
           rotate_left
           ·(intro w' hS; (try dsimp only at hS); go_simp; try with_reducible rfl)
           try simp only [Act.put, List.getElem_toArray, List.getElem_cons_succ, List.getElem_cons_zero, List.setIfInBounds_toArray, List.set_cons_zero, List.set_cons_succ]
           refine wpAnyH_take (i := 3) (v := ?_) rfl (by kernel_rfl) (by kernel_rfl) (by kernel_rfl) (fun _ _ _ h => h) (Or.inl ⟨by rfl, ?_⟩) (by assumption) ?_
           rotate_left
           ·(intro w' hS; (try dsimp only at hS); go_simp; try with_reducible rfl)
           try simp only [Act.put, List.getElem_toArray, List.getElem_cons_succ, List.getElem_cons_zero, List.setIfInBounds_toArray, List.set_cons_zero, List.set_cons_succ]
           refine wpAnyH_take (i := 4) (v := ?_) rfl (by kernel_rfl) (by kernel_rfl) (by kernel_rfl) (fun _ _ _ h => h) (Or.inl ⟨by rfl, ?_⟩) (by assumption) ?_
           rotate_left
           ·(intro w' hS; (try dsimp only at hS); go_simp; try with_reducible rfl)
           try simp only [Act.put, List.getElem_toArray, List.getElem_cons_succ, List.getElem_cons_zero, List.setIfInBounds_toArray, List.set_cons_zero, List.set_cons_succ]
           refine wpAnyH_take (i := 5) (v := ?_) rfl (by kernel_rfl) (by kernel_rfl) (by kernel_rfl) (fun _ _ _ h => h) (Or.inl ⟨by rfl, ?_⟩) (by assumption) ?_
           rotate_left
           ·(intro w' hS; (try dsimp only at hS); go_simp; try with_reducible rfl)
           try simp only [Act.put, List.getElem_toArray, List.getElem_cons_succ, List.getElem_cons_zero, List.setIfInBounds_toArray, List.set_cons_zero, List.set_cons_succ]
           refine wpAnyH_take (i := 6) (v := ?_) rfl (by kernel_rfl) (by kernel_rfl) (by kernel_rfl) (fun _ _ _ h => h) (Or.inl ⟨by rfl, ?_⟩) (by assumption) ?_
           rotate_left
           ·(intro w' hS; (try dsimp only at hS); go_simp; try with_reducible rfl)
           try simp only [Act.put, List.getElem_toArray, List.getElem_cons_succ, List.getElem_cons_zero, List.setIfInBounds_toArray, List.set_cons_zero, List.set_cons_succ]
           refine wpAnyH_take (i := 7) (v := ?_) rfl (by kernel_rfl) (by kernel_rfl) (by kernel_rfl) (fun _ _ _ h => h) (Or.inl ⟨by rfl, ?_⟩) (by assumption) ?_
           rotate_left
           ·(intro w' hS; (try dsimp only at hS); go_simp; try with_reducible rfl)
           try simp only [Act.put, List.getElem_toArray, List.getElem_cons_succ, List.getElem_cons_zero, List.setIfInBounds_toArray, List.set_cons_zero, List.set_cons_succ]
           refine wpAnyH_take (i := 8) (v := ?_) rfl (by kernel_rfl) (by kernel_rfl) (by kernel_rfl) (fun _ _ _ h => h) (Or.inl ⟨by rfl, ?_⟩) (by assumption) ?_
           rotate_left
           ·(intro w' hS; (try dsimp only at hS); go_simp; try with_reducible rfl)
           try simp only [Act.put, List.getElem_toArray, List.getElem_cons_succ, List.getElem_cons_zero, List.setIfInBounds_toArray, List.set_cons_zero, List.set_cons_succ]
           refine wpAnyH_take (i := 9) (v := ?_) rfl (by kernel_rfl) (by kernel_rfl) (by kernel_rfl) (fun _ _ _ h => h) (Or.inl ⟨by rfl, ?_⟩) (by assumption) ?_
           rotate_left
           ·(intro w' hS; (try dsimp only at hS); go_simp; try with_reducible rfl)
           try simp only [Act.put, List.getElem_toArray, List.getElem_cons_succ, List.getElem_cons_zero, List.setIfInBounds_toArray, List.set_cons_zero, List.set_cons_succ]
           refine wpAnyH_take (i := 10) (v := ?_) rfl (by kernel_rfl) (by kernel_rfl) (by kernel_rfl) (fun _ _ _ h => h) (Or.inl ⟨by rfl, ?_⟩) (by assumption) ?_
           rotate_left
           ·(intro w' hS; (try dsimp only at hS); go_simp; try with_reducible rfl)
           try simp only [Act.put, List.getElem_toArray, List.getElem_cons_succ, List.getElem_cons_zero, List.setIfInBounds_toArray, List.set_cons_zero, List.set_cons_succ]
           refine wpAnyH_take (i := 12) (v := ?_) rfl (by kernel_rfl) (by kernel_rfl) (by kernel_rfl) (fun _ _ _ h => h) (Or.inl ⟨by rfl, ?_⟩) (by assumption) ?_
           rotate_left
           ·(intro w' hS; (try dsimp only at hS); go_simp; try with_reducible rfl)
           try simp only [Act.put, List.getElem_toArray, List.getElem_cons_succ, List.getElem_cons_zero, List.setIfInBounds_toArray, List.set_cons_zero, List.set_cons_succ]
           refine wpAnyH_ready (rs := [11]) (by kernel_rfl) (by simp) ?_
           refine AllReadyH.cons rfl (fun K hK => ?_) AllReadyH.nil
           go_simp
           refine hK.out _ _ trivial (fun hHeld => ?_)
           clear hK K
           try simp only [Act.put, List.getElem_toArray, List.getElem_cons_succ, List.getElem_cons_zero, List.setIfInBounds_toArray, List.set_cons_zero, List.set_cons_succ]
           refine wpAnyH_take (i := 13) (v := ?_) rfl (by kernel_rfl) (by kernel_rfl) (by kernel_rfl) (fun _ _ _ h => h) (Or.inl ⟨by rfl, ?_⟩) (by assumption) ?_
           rotate_left
           ·(intro w' hS; (try dsimp only at hS); go_simp; try with_reducible rfl)
           try simp only [Act.put, List.getElem_toArray, List.getElem_cons_succ, List.getElem_cons_zero, List.setIfInBounds_toArray, List.set_cons_zero, List.set_cons_succ]
           refine wpAnyH_take (i := 14) (v := ?_) rfl (by kernel_rfl) (by kernel_rfl) (by kernel_rfl) (fun _ _ _ h => h) (Or.inl ⟨by rfl, ?_⟩) (by assumption) ?_
           rotate_left
           ·(intro w' hS; (try dsimp only at hS); go_simp; try with_reducible rfl)
           try simp only [Act.put, List.getElem_toArray, List.getElem_cons_succ, List.getElem_cons_zero, List.setIfInBounds_toArray, List.set_cons_zero, List.set_cons_succ]
           refine wpAnyH_ready (rs := [15]) (by kernel_rfl) (by simp) ?_
           refine AllReadyH.cons rfl (fun K hK => ?_) AllReadyH.nil
           go_simp
           refine hK.out _ _ trivial (fun hHeld => ?_)
           clear hK K
           try simp only [Act.put, List.getElem_toArray, List.getElem_cons_succ, List.getElem_cons_zero, List.setIfInBounds_toArray, List.set_cons_zero, List.set_cons_succ]
           refine wpAnyH_done (by kernel_rfl) ?_ _
           refine NoPanic.normal ?_
           simp only [wrap_is]
           go_wp2_with fail
           go_meet
           exact ⟨_, HS7.out, HV7.out, HN2.out⟩
          | false =>
           have HN2 := Lib.hid (show St g (63 - k) k a (rt g k s q a2) (s + 1) from by have := HN.out; rwa [HDn.out, if_neg (by simp)] at this)
           go_wp2_with fail
           go_meet
           exact ⟨a2, S6, HV.out, HN2.out⟩
         case rest =>
          clear S6 HN HDn
          obtain ⟨a3, S6, V6, P6⟩ := hcut
          have HV6 := Lib.hid V6
          have HP6 := Lib.hid P6
          clear V6 P6
          obtain ⟨cr, cx, cy⟩ := S6.cells
          go_upto_region 28 with fail
          try simp only [hwx]
          have hbl := heap_alloc_new wc (.cells #[.int .i64 (x1 : Int), .int .i64 (y : Int)] 38)
          have S7 := S6.on (below_alloc1 wc (.cells #[.int .i64 (x1 : Int), .int .i64 (y : Int)] 38))
          generalize wc.alloc (.cells #[.int .i64 (x1 : Int), .int .i64 (y : Int)] 38) = W7 at hbl S7 ⊢
          generalize wc.heap.size = p7 at hbl ⊢
          clear S6 cr cx cy
          go_cut [135] from 39 to 152 (fun v wc => v = .bool rx ∧ SC w (.slice A n cap) b a b2 a3 p x y wc)
          case first =>
           obtain ⟨cr, cx, cy⟩ := S7.cells
           have c0 := (cellAt hbl 0).1.trans (show _ = some (Value.int .i64 (x1 : Int)) from rfl)
           have c1 := (cellAt hbl 1).1.trans (show _ = some (Value.int .i64 (y : Int)) from rfl)
           go_wp2_with fail
           refine (HCl.out _).mono ?_
           rintro e w8 ⟨rfl, hb8⟩
           have S8 := S7.on hb8
           have hbl8 := (hb8.block p7 (Array.getElem?_eq_some_iff.1 hbl).1).trans hbl
           clear c0 c1 cr cx cy S7 hbl hb8
           by_cases h8 : x1 < 8
           ·rw [decide_eq_true h8]
            have hrx := HRX.out
            rw [decide_eq_true h8, Bool.true_and] at hrx
            have hx1I : (x1 : Int) < 64 := cast_lt (Nat.lt_trans h8 (by decide))
            obtain ⟨cr, cx, cy⟩ := S8.cells
            have c0 := (cellAt hbl8 0).1.trans (show _ = some (Value.int .i64 (x1 : Int)) from rfl)
            have c1 := (cellAt hbl8 1).1.trans (show _ = some (Value.int .i64 (y : Int)) from rfl)
            have HRx := Lib.hid hrx
            clear hrx
            go_wp2_with fail
            refine (HHr.out _ S8.1.1 h8).mono ?_
            rintro e w9 ⟨rfl, hb9⟩
            have S9 := S8.on hb9
            clear S8 c0 c1 cr cx cy hbl8 hb9
            have hsh2 := HSh.out h8
            cases rb with
            | true =>
             cases hb1 : s.testBit x1 with
             | true =>
              rw [hb1, if_pos rfl] at hsh2
              go_wp2_with fail
              go_meet
              exact ⟨by rw [HRx.out, hb1]; rfl, S9⟩
             | false =>
              rw [hb1, if_neg (by simp)] at hsh2
              go_wp2_with fail
              go_meet
              exact ⟨by rw [HRx.out, hb1]; rfl, S9⟩
            | false =>
             clear hsh2
             go_wp2_with fail
             go_meet
             exact ⟨by rw [HRx.out]; rfl, S9⟩
           ·rw [decide_eq_false h8]
            have hrx := HRX.out
            rw [decide_eq_false h8, Bool.false_and] at hrx
            have HRx := Lib.hid hrx
            clear hrx
            go_wp2_with fail
            go_meet
            exact ⟨by rw [HRx.out], S8⟩
          case rest =>
           clear S7 hbl
           obtain ⟨hu, S6⟩ := hcut
           subst hu
           go_upto_if 135 with fail
           cases rx with
           | true =>
            obtain ⟨e1, e2, e3⟩ := HR1.out rfl
            have HN2 := Lib.hid (show St g (63 - k) k a (upd a3 (s + 2 ^ x1) (wrap64 (a3 (s + 2 ^ x1) + q))) (s + 1) from by have := HP6.out; rwa [HRt.out a3, if_pos rfl] at this)
            generalize s + 2 ^ x1 = t1 at e2 e3 HN2
            obtain ⟨hp1, hp2⟩ := powW e1
            have hx1I : (x1 : Int) < 64 := cast_lt (Nat.lt_trans e1 (by decide))
            have hqI : (t1 : Int) < 256 := cast_lt e2
            obtain ⟨ct, ft⟩ := S6.drew.at2 e2
            have HS7 := Lib.hid (S6.drew.set e2 (wrap64 (a3 t1 + q)))
            have HV7 := Lib.hid (HV6.out.upd t1 (a3 t1 + q))
            clear S6 HRt HP6 HV6 hor hq1 HR1 HRX
            go_wp2_with fail
            refine wp_region_noPanic ?_
            refine wp_region_held_drew (S := fun _ => True) (by kernel_rfl) trivial (fun hHeld => ?_)
            refine wpAnyH_take (i := 0) (v := ?_) rfl (by kernel_rfl) (by kernel_rfl) (by kernel_rfl) (fun _ _ _ h => h) (Or.inl ⟨by rfl, ?_⟩) (by assumption) ?_
            rotate_left
            ·(intro w' hS; (try dsimp only at hS); go_simp; try with_reducible rfl)
            try simp only [Act.put, List.getElem_toArray, List.getElem_cons_succ, List.getElem_cons_zero, List.setIfInBounds_toArray, List.set_cons_zero, List.set_cons_succ]
            refine wpAnyH_take (i := 1) (v := ?_) rfl (by kernel_rfl) (by kernel_rfl) (by kernel_rfl) (fun _ _ _ h => h) (Or.inl ⟨by rfl, ?_⟩) (by assumption) ?_
            rotate_left
            ·(intro w' hS; (try dsimp only at hS); go_simp; try with_reducible rfl)
            try simp only [Act.put, List.getElem_toArray, List.getElem_cons_succ, List.getElem_cons_zero, List.setIfInBounds_toArray, List.set_cons_zero, List.set_cons_succ]
            refine wpAnyH_take (i := 2) (v := ?_) rfl (by kernel_rfl) (by kernel_rfl) (by kernel_rfl) (fun _ _ _ h => h) (Or.inl ⟨by rfl, ?_⟩) (by assumption) ?_
            rotate_left
            ·(intro w' hS; (try dsimp only at hS); go_simp; try with_reducible rfl)
            try simp only [Act.put, List.getElem_toArray, List.getElem_cons_succ, List.getElem_cons_zero, List.setIfInBounds_toArray, List.set_cons_zero, List.set_cons_succ]
            refine wpAnyH_take (i := 3) (v := ?_) rfl (by kernel_rfl) (by kernel_rfl) (by kernel_rfl) (fun _ _ _ h => h) (Or.inl ⟨by rfl, ?_⟩) (by assumption) ?_
            rotate_left
            ·(intro w' hS; (try dsimp only at hS); go_simp; try with_reducible rfl)
            try simp only [Act.put, List.getElem_toArray, List.getElem_cons_succ, List.getElem_cons_zero, List.setIfInBounds_toArray, List.set_cons_zero, List.set_cons_succ]
            refine wpAnyH_take (i := 4) (v := ?_) rfl (by kernel_rfl) (by kernel_rfl) (by kernel_rfl) (fun _ _ _ h => h) (Or.inl ⟨by rfl, ?_⟩) (by assumption) ?_
            rotate_left
            ·(intro w' hS; (try dsimp only at hS); go_simp; try with_reducible rfl)
            try simp only [Act.put, List.getElem_toArray, List.getElem_cons_succ, List.getElem_cons_zero, List.setIfInBounds_toArray, List.set_cons_zero, List.set_cons_succ]
            refine wpAnyH_take (i := 5) (v := ?_) rfl (by kernel_rfl) (by kernel_rfl) (by kernel_rfl) (fun _ _ _ h => h) (Or.inl ⟨by rfl, ?_⟩) (by assumption) ?_
            rotate_left
            ·(intro w' hS; (try dsimp only at hS); go_simp; try with_reducible rfl)
            try simp only [Act.put, List.getElem_toArray, List.getElem_cons_succ, List.getElem_cons_zero, List.setIfInBounds_toArray, List.set_cons_zero, List.set_cons_succ]
            refine wpAnyH_take (i := 6) (v := ?_) rfl (by kernel_rfl) (by kernel_rfl) (by kernel_rfl) (fun _ _ _ h => h) (Or.inl ⟨by rfl, ?_⟩) (by assumption) ?_
            rotate_left
            ·(intro w' hS; (try dsimp only at hS); go_simp; try with_reducible rfl)
            try simp only [Act.put, List.getElem_toArray, List.getElem_cons_succ, List.getElem_cons_zero, List.setIfInBounds_toArray, List.set_cons_zero, List.set_cons_succ]
            refine wpAnyH_take (i := 7) (v := ?_) rfl (by kernel_rfl) (by kernel_rfl) (by kernel_rfl) (fun _ _ _ h => h) (Or.inl ⟨by rfl, ?_⟩) (by assumption) ?_
            rotate_left
            ·(intro w' hS; (try dsimp only at hS); go_simp; try with_reducible rfl)
            try simp only [Act.put, List.getElem_toArray, List.getElem_cons_succ, List.getElem_cons_zero, List.setIfInBounds_toArray, List.set_cons_zero, List.set_cons_succ]
            refine wpAnyH_take (i := 8) (v := ?_) rfl (by kernel_rfl) (by kernel_rfl) (by kernel_rfl) (fun _ _ _ h => h) (Or.inl ⟨by rfl, ?_⟩) (by assumption) ?_
            rotate_left
            ·(intro w' hS; (try dsimp only at hS); go_simp; try with_reducible rfl)
            try simp only [Act.put, List.getElem_toArray, List.getElem_cons_succ, List.getElem_cons_zero, List.setIfInBounds_toArray, List.set_cons_zero, List.set_cons_succ]
            refine wpAnyH_take (i := 9) (v := ?_) rfl (by kernel_rfl) (by kernel_rfl) (by kernel_rfl) (fun _ _ _ h => h) (Or.inl ⟨by rfl, ?_⟩) (by assumption) ?_
            rotate_left
            ·(intro w' hS; (try dsimp only at hS); go_simp; try with_reducible rfl)
            try simp only [Act.put, List.getElem_toArray, List.getElem_cons_succ, List.getElem_cons_zero, List.setIfInBounds_toArray, List.set_cons_zero, List.set_cons_succ]
            refine wpAnyH_take (i := 10) (v := ?_) rfl (by kernel_rfl) (by kernel_rfl) (by kernel_rfl) (fun _ _ _ h => h) (Or.inl ⟨by rfl, ?_⟩) (by assumption) ?_
            rotate_left
            ·(intro w' hS; (try dsimp only at hS); go_simp; try with_reducible rfl)
            try simp only [Act.put, List.getElem_toArray, List.getElem_cons_succ, List.getElem_cons_zero, List.setIfInBounds_toArray, List.set_cons_zero, List.set_cons_succ]
            refine wpAnyH_take (i := 11) (v := ?_) rfl (by kernel_rfl) (by kernel_rfl) (by kernel_rfl) (fun _ _ _ h => h) (Or.inl ⟨by rfl, ?_⟩) (by assumption) ?_
            rotate_left
            ·(intro w' hS; (try dsimp only at hS); go_simp; try with_reducible rfl)
            try simp only [Act.put, List.getElem_toArray, List.getElem_cons_succ, List.getElem_cons_zero, List.setIfInBounds_toArray, List.set_cons_zero, List.set_cons_succ]
            refine wpAnyH_take (i := 12) (v := ?_) rfl (by kernel_rfl) (by kernel_rfl) (by kernel_rfl) (fun _ _ _ h => h) (Or.inl ⟨by rfl, ?_⟩) (by assumption) ?_
            rotate_left
            ·(intro w' hS; (try dsimp only at hS); go_simp; try with_reducible rfl)
            try simp only [Act.put, List.getElem_toArray, List.getElem_cons_succ, List.getElem_cons_zero, List.setIfInBounds_toArray, List.set_cons_zero, List.set_cons_succ]
            refine wpAnyH_take (i := 14) (v := ?_) rfl (by kernel_rfl) (by kernel_rfl) (by kernel_rfl) (fun _ _ _ h => h) (Or.inl ⟨by rfl, ?_⟩) (by assumption) ?_
            rotate_left
            ·(intro w' hS; (try dsimp only at hS); go_simp; try with_reducible rfl)
            try simp only [Act.put, List.getElem_toArray, List.getElem_cons_succ, List.getElem_cons_zero, List.setIfInBounds_toArray, List.set_cons_zero, List.set_cons_succ]
            refine wpAnyH_ready (rs := [13]) (by kernel_rfl) (by simp) ?_
            refine AllReadyH.cons rfl (fun K hK => ?_) AllReadyH.nil
            go_simp
            refine hK.out _ _ trivial (fun hHeld => ?_)
            clear hK K
            try simp only [Act.put, List.getElem_toArray, List.getElem_cons_succ, List.getElem_cons_zero, List.setIfInBounds_toArray, List.set_cons_zero, List.set_cons_succ]
            refine wpAnyH_take (i := 15) (v := ?_) rfl (by kernel_rfl) (by kernel_rfl) (by kernel_rfl) (fun _ _ _ h => h) (Or.inl ⟨by rfl, ?_⟩) (by assumption) ?_
            rotate_left
            ·(intro w' hS; (try dsimp only at hS); go_simp; try with_reducible rfl)
            try simp only [Act.put, List.getElem_toArray, List.getElem_cons_succ, List.getElem_cons_zero, List.setIfInBounds_toArray, List.set_cons_zero, List.set_cons_succ]
            refine wpAnyH_take (i := 16) (v := ?_) rfl (by kernel_rfl) (by kernel_rfl) (by kernel_rfl) (fun _ _ _ h => h) (Or.inl ⟨by rfl, ?_⟩) (by assumption) ?_
            rotate_left
            ·(intro w' hS; (try dsimp only at hS); go_simp; try with_reducible rfl)
            try simp only [Act.put, List.getElem_toArray, List.getElem_cons_succ, List.getElem_cons_zero, List.setIfInBounds_toArray, List.set_cons_zero, List.set_cons_succ]
            refine wpAnyH_ready (rs := [17]) (by kernel_rfl) (by simp) ?_
            refine AllReadyH.cons rfl (fun K hK => ?_) AllReadyH.nil
            go_simp
            refine hK.out _ _ trivial (fun hHeld => ?_)
            clear hK K
            try simp only [Act.put, List.getElem_toArray, List.getElem_cons_succ, List.getElem_cons_zero, List.setIfInBounds_toArray, List.set_cons_zero, List.set_cons_succ]
            refine wpAnyH_done (by kernel_rfl) ?_ _
            refine NoPanic.normal ?_
            simp only [wrap_is]
            go_wp2
            go_roundw
            case rel => exact ⟨s + 1, _, by omega, by go_num, HS7.out, HN2.out, HV7.out⟩
            case measure => (simp [intOf] <;> omega)
           | false =>
            have HN2 := Lib.hid (show St g (63 - k) k a a3 (s + 1) from by have := HP6.out; rwa [HRt.out a3, if_neg (by simp)] at this)
            have HS7 := Lib.hid S6
            clear S6 HRt HP6 HR1 HRX
            go_wp2
            go_roundw
            case rel => exact ⟨s + 1, a3, by omega, by go_num, HS7.out, HN2.out, HV6.out⟩
            case measure => (simp [intOf] <;> omega)
    ·obtain rfl : s = 256 := by omega
     have HN := Lib.hid (HI.out.next hlt P1)
     have HN2 := Lib.hid S1.2.2.1
     have HT := Lib.hid S1.1
     have HV := Lib.hid V1
     clear S1 P1 V1
     go_wp2
     go_roundw
     case rel => exact ⟨k + 1, b2, a2, by omega, by go_num, rfl, HN2.out, HN.out, HT.out, HV.out⟩
     case measure => (simp [intOf] <;> omega)
  ·obtain rfl : k = 64 := by omega
   have hc0 := N1.cell (i := 0) (by omega)
   have HE := Lib.hid (show a 0 = wrap64 (tiles g : Nat) from by rw [← W1 0]; exact I1.last)
   have HT := Lib.hid T1.1
   clear N1 I1 T1 W1
   go_wp2
   go_ret
   exact ⟨by rw [← HE.out]; rfl, HT.out⟩
end Go.Proofs.Ytjfagpmklifjlaa.Cnt
