/- RegSs, FrD, RegWc, FrE in one text. -/
import Derived.Test.YtjfagpmklifjlaaMg07
import Derived.Test.YtjfagpmklifjlaaMg05
import Derived.Laws.CopyOwn
import Derived.Deep.DeepAppendRoom
import Derived.BigRegion

namespace Go.Proofs.Ytjfagpmklifjlaa.Reg
set_option linter.unusedVariables false
set_option linter.unusedSimpArgs false
open Go.RowKit Go.Proofs.Ytjfagpmklifjlaa.Pure Go.Joins

theorem bits_table : ∀ r : Fin 256, ((r.val : Nat) : Int) = (if bitB ((r.val : Nat) : Int) 0 then 1 else 0) + (if bitB ((r.val : Nat) : Int) 1 then 2 else 0) + (if bitB ((r.val : Nat) : Int) 2 then 4 else 0) + (if bitB ((r.val : Nat) : Int) 3 then 8 else 0) +
  (if bitB ((r.val : Nat) : Int) 4 then 16 else 0) + (if bitB ((r.val : Nat) : Int) 5 then 32 else 0) + (if bitB ((r.val : Nat) : Int) 6 then 64 else 0) + (if bitB ((r.val : Nat) : Int) 7 then 128 else 0) := by decide +kernel
theorem bits_sum {r : Int} (h0 : 0 ≤ r) (h1 : r ≤ 255) : r = (if bitB r 0 then 1 else 0) + (if bitB r 1 then 2 else 0) + (if bitB r 2 then 4 else 0) + (if bitB r 3 then 8 else 0) +
  (if bitB r 4 then 16 else 0) + (if bitB r 5 then 32 else 0) + (if bitB r 6 then 64 else 0) + (if bitB r 7 then 128 else 0) := by
 have h := bits_table ⟨r.toNat, by omega⟩
 have e : ((r.toNat : Nat) : Int) = r := Int.toNat_of_nonneg h0
 simp only [e] at h
 exact h
theorem bits_eq {r s : Int} (h0 : 0 ≤ r) (h1 : r ≤ 255) (k0 : 0 ≤ s) (k1 : s ≤ 255) (h : ∀ k, k < 8 → bitB r k = bitB s k) : r = s := by
 rw [bits_sum h0 h1, bits_sum k0 k1, h 0 (by omega), h 1 (by omega), h 2 (by omega), h 3 (by omega), h 4 (by omega), h 5 (by omega), h 6 (by omega), h 7 (by omega)]
end Go.Proofs.Ytjfagpmklifjlaa.Reg

namespace Go.Proofs.Ytjfagpmklifjlaa.Fr
set_option linter.unusedVariables false
set_option linter.unusedSimpArgs false
open Go.RowKit Go.Proofs.Ytjfagpmklifjlaa.Pure Go.Proofs.Ytjfagpmklifjlaa.Cell Go.Proofs.Ytjfagpmklifjlaa.Reg Go.Proofs.Ytjfagpmklifjlaa.Cnt Go.Proofs.Ytjfagpmklifjlaa.Dom Go.Proofs.Ytjfagpmklifjlaa.Dms Go.Proofs.Ytjfagpmklifjlaa.Til Go.Proofs.Ytjfagpmklifjlaa.Grd Go.Proofs.Ytjfagpmklifjlaa.Flp Go.Joins
open Go.Proofs.Ytjfagpmklifjlaa.Lis (allT all_til all_length)

def fitD (xs : List Int) (d : Dm) : Bool := okM d && hasB xs (sx d.1 d.2.2) (sy d.2.1 d.2.2)
def atD (xs : List Int) (c : Int × Int) : List Dm := [(c.1, c.2, false), (c.1, c.2, true)].filter (fitD xs)
def allD (xs : List Int) : List Dm := (cellsR xs).flatMap (atD xs)
theorem mem_at {xs : List Int} {c : Int × Int} {d : Dm} : d ∈ atD xs c ↔ (d.1 = c.1 ∧ d.2.1 = c.2) ∧ fitD xs d = true := by
 unfold atD
 rw [List.mem_filter]
 obtain ⟨x, y, b⟩ := d
 obtain ⟨p, q⟩ := c
 simp only [List.mem_cons, List.not_mem_nil, or_false, Prod.mk.injEq]
 cases b <;> simp
theorem mem_allD {xs : List Int} {d : Dm} : d ∈ allD xs ↔ hasB xs d.1 d.2.1 = true ∧ fitD xs d = true := by
 unfold allD
 rw [List.mem_flatMap]
 constructor
 ·rintro ⟨⟨p, q⟩, hc, hd⟩
  obtain ⟨⟨h1, h2⟩, h3⟩ := mem_at.1 hd
  simp only at h1 h2
  rw [h1, h2]
  exact ⟨mem_cells.1 hc, h3⟩
 ·rintro ⟨h1, h2⟩
  exact ⟨(d.1, d.2.1), mem_cells.2 h1, mem_at.2 ⟨⟨rfl, rfl⟩, h2⟩⟩
theorem fit_ok {xs : List Int} {d : Dm} (h : fitD xs d = true) : okM d = true ∧ hasB xs (sx d.1 d.2.2) (sy d.2.1 d.2.2) = true := by
 unfold fitD at h
 rw [Bool.and_eq_true] at h; exact h
theorem at_inc (xs : List Int) (c : Int × Int) : Inc (atD xs c) := by
 unfold Inc
 have key : ∀ a ∈ atD xs c, ∀ b ∈ atD xs c, a.2.2 = false → b.2.2 = true → befM a b = true := fun a ha b hb h1 h2 => by
  obtain ⟨⟨a1, a2⟩, a3⟩ := mem_at.1 ha
  obtain ⟨⟨b1, b2⟩, b3⟩ := mem_at.1 hb
  rw [befM_iff]
  exact ⟨(fit_ok a3).1, (fit_ok b3).1, .inr ⟨by rw [a1, a2, b1, b2], h1, h2⟩⟩
 unfold atD at key ⊢
 rw [List.filter_cons]
 split
 ·rename_i hf
  rw [List.filter_cons]
  split
  ·rename_i hf2
   rw [List.filter_nil, List.pairwise_cons]
   refine ⟨fun b hb => ?_, List.pairwise_singleton ..⟩
   obtain rfl := List.mem_singleton.1 hb
   exact key _ (List.mem_filter.2 ⟨by simp, hf⟩) _ (List.mem_filter.2 ⟨by simp, hf2⟩) rfl rfl
  ·rw [List.filter_nil]; exact List.pairwise_singleton ..
 ·rw [List.filter_cons]
  split
  ·rw [List.filter_nil]; exact List.pairwise_singleton ..
  ·exact List.Pairwise.nil
theorem allD_inc (xs : List Int) : Inc (allD xs) := by
 unfold Inc allD
 rw [List.pairwise_flatMap]
 refine ⟨fun c _ => at_inc xs c, List.Pairwise.imp (fun {c e} hce a ha b hb => ?_) (cells_inc xs)⟩
 obtain ⟨⟨a1, a2⟩, a3⟩ := mem_at.1 ha
 obtain ⟨⟨b1, b2⟩, b3⟩ := mem_at.1 hb
 rw [befM_iff]
 exact ⟨(fit_ok a3).1, (fit_ok b3).1, .inl (by rw [a1, a2, b1, b2]; exact hce)⟩
theorem til_allD {xs L : _} (h : tilB xs L = true) : ∀ d ∈ L, d ∈ allD xs := fun d hd => by
 have hp := (til_iff.1 h).1
 have hv := part_valid hp d hd
 have hc : covM d d.1 d.2.1 = true ∧ covM d (sx d.1 d.2.2) (sy d.2.1 d.2.2) = true := by
  unfold covM covP
  rw [hv, Bool.true_and, Bool.true_and, Bool.or_eq_true, Bool.or_eq_true, eqB_iff, eqB_iff, eqB_iff, eqB_iff]
  exact ⟨.inl ⟨rfl, rfl⟩, .inr ⟨rfl, rfl⟩⟩
 refine mem_allD.2 ⟨part_in hp hd hc.1, ?_⟩
 unfold fitD
 rw [hv, part_in hp hd hc.2]; rfl
def cntD (xs : List Int) (d : Dm) : Int := ((holdT xs [d]).length : Int)
def possD (xs : List Int) : List Dm := if okR xs then (allD xs).filter fun d => decide (0 < cntD xs d) else []
def forcD (xs : List Int) : List Dm := if okR xs ∧ 0 < (allT xs).length then (allD xs).filter fun d => decide (cntD xs d = ((allT xs).length : Int)) else []
theorem not_til {xs : List Int} (h : ¬ okR xs) : ∀ L, tilB xs L = true → False := fun L hL => by
 have := (part_iff.1 (til_iff.1 hL).1).1
 exact h (okRB_iff.1 this)
theorem possD_poss (xs : List Int) : PossL xs (possD xs) := by
 unfold possD
 by_cases ho : okR xs
 ·rw [if_pos ho]
  exact poss_of ho (allD_inc xs) (fun L hL => til_allD hL) fun d _ => rfl
 ·rw [if_neg ho]
  exact poss_none (not_til ho)
theorem forcD_forc (xs : List Int) : ForcL xs (forcD xs) := by
 unfold forcD
 by_cases ho : okR xs
 ·by_cases h0 : 0 < (allT xs).length
  ·rw [if_pos ⟨ho, h0⟩]
   exact forc_of ho (allD_inc xs) (fun L hL => til_allD hL) (fun d _ => rfl) h0
  ·rw [if_neg (fun h => h0 h.2)]
   exact forc_none fun L hL => h0 (List.length_pos_of_mem (KuL.til_all ho hL))
 ·rw [if_neg (fun h => ho h.1)]
  exact forc_none (not_til ho)
def lessD (xs : List Int) (d : Dm) : List Int := withR (withR xs d.1.toNat d.2.1.toNat false) (sx d.1 d.2.2).toNat (sy d.2.1 d.2.2).toNat false
def freeD (xs : List Int) (F : List Dm) : List Int := F.foldl lessD (pad8 xs)
theorem second_in {d : Dm} (h : okM d = true) : (0 ≤ d.1 ∧ d.1 ≤ 7 ∧ 0 ≤ d.2.1 ∧ d.2.1 ≤ 7) ∧ 0 ≤ sx d.1 d.2.2 ∧ sx d.1 d.2.2 ≤ 7 ∧ 0 ≤ sy d.2.1 d.2.2 ∧ sy d.2.1 d.2.2 ≤ 7 := by
 refine ⟨okM_in h, ?_⟩
 obtain ⟨x, y, b⟩ := d
 unfold okM domB at h
 rw [Bool.and_eq_true] at h
 have k := okB_iff.1 h.2
 unfold Ok at k
 simp only at k ⊢
 omega
theorem okR_pad {xs : List Int} (h : okR xs) : okR (pad8 xs) := by
 unfold pad8
 refine ⟨by rw [List.length_append, List.length_replicate]; have := h.1; omega, fun x hx => ?_⟩
 rcases List.mem_append.1 hx with q | q
 ·exact h.2 x q
 ·rw [List.eq_of_mem_replicate q]; omega
theorem has_pad {xs : List Int} (h : okR xs) (x y : Int) : hasB (pad8 xs) x y = hasB xs x y := by
 by_cases hpq : (0 ≤ x ∧ x ≤ 7) ∧ 0 ≤ y ∧ y ≤ 7
 ·obtain ⟨p, rfl⟩ : ∃ n : Nat, x = (n : Int) := ⟨x.toNat, by omega⟩
  obtain ⟨q, rfl⟩ : ∃ n : Nat, y = (n : Int) := ⟨y.toNat, by omega⟩
  rw [has_at (okR_pad h) (by omega) (by omega), has_at h (by omega) (by omega), rowD_pad8]
 ·have z : ∀ ys : List Int, hasB ys x y = false := fun ys => by
   cases q : hasB ys x y with
   | false => rfl
   | true =>
    obtain ⟨_, a0, a1, a2, a3, _⟩ := hasB_iff.1 q
    exact absurd ⟨⟨a0, by omega⟩, a2, by omega⟩ hpq
  rw [z, z]
theorem lessD_less {xs : List Int} (ok : okR xs) {d : Dm} (hd : okM d = true) : okR (lessD xs d) ∧ Less xs (lessD xs d) [d] ∧ (lessD xs d).length = 8 := by
 obtain ⟨⟨a0, a1, b0, b1⟩, c0, c1, e0, e1⟩ := second_in hd
 obtain ⟨x, y, b⟩ := d
 simp only at a0 a1 b0 b1 c0 c1 e0 e1
 obtain ⟨x, rfl⟩ : ∃ n : Nat, x = (n : Int) := ⟨x.toNat, by omega⟩
 obtain ⟨y, rfl⟩ : ∃ n : Nat, y = (n : Int) := ⟨y.toNat, by omega⟩
 obtain ⟨k1, k2⟩ := less_two ok (x := x) (y := y) (u := (sx (x : Int) b).toNat) (v := (sy (y : Int) b).toNat) (b := b) (by omega) (by omega) (by omega) (by omega) (by omega) (by omega) hd
 unfold lessD
 simp only [Int.toNat_natCast]
 exact ⟨k1, k2, withR_length (Nat.le_of_eq (withR_length ok.1 x y false)) _ _ _⟩
theorem any_app (S T : List Dm) (x y : Int) : anyM (S ++ T) x y = (anyM S x y || anyM T x y) := by unfold anyM; exact List.any_append
theorem fold_less : ∀ (F : List Dm) {xs ys : List Int} {S : List Dm}, okR ys → Less xs ys S → ys.length = 8 → (∀ d ∈ F, okM d = true) → okR (F.foldl lessD ys) ∧ Less xs (F.foldl lessD ys) (S ++ F) ∧ (F.foldl lessD ys).length = 8
 | [], xs, ys, S, ok, hl, h8, _ => by rw [List.append_nil]; exact ⟨ok, hl, h8⟩
 | d :: F, xs, ys, S, ok, hl, h8, hF => by
  obtain ⟨a, b, c⟩ := lessD_less ok (hF d List.mem_cons_self)
  have k := fold_less F (xs := xs) (S := S ++ [d]) a (fun x y => by
   rw [b x y, hl x y, any_app, Bool.not_or, Bool.and_assoc]) c (fun e he => hF e (List.mem_cons_of_mem _ he))
  rw [List.append_assoc] at k
  exact k
theorem freeD_less {xs : List Int} (ok : okR xs) {F : List Dm} (hF : ∀ d ∈ F, okM d = true) : okR (freeD xs F) ∧ Less xs (freeD xs F) F ∧ (freeD xs F).length = 8 :=
 fold_less F (S := []) (okR_pad ok) (fun x y => by rw [has_pad ok]; unfold anyM; simp) (pad8_length ok.1) hF
theorem rows_same {xs ys : List Int} (ok : okR xs) (ok' : okR ys) (h8 : xs.length = 8) (h8' : ys.length = 8) (h : ∀ x y, hasB xs x y = hasB ys x y) : xs = ys := by
 refine List.ext_getElem (by omega) fun i h1 h2 => ?_
 have e : ∀ x, x < 8 → bitB (rowD xs i) x = bitB (rowD ys i) x := fun x hx => by
  rw [← has_at ok hx (by omega), ← has_at ok' hx (by omega), h]
 have hx := ok.2 xs[i] (List.getElem_mem h1)
 have hy := ok'.2 ys[i] (List.getElem_mem h2)
 have ex : rowD xs i = xs[i] := by exact rowD_at (List.getElem?_eq_getElem h1)
 have ey : rowD ys i = ys[i] := by exact rowD_at (List.getElem?_eq_getElem h2)
 rw [ex, ey] at e
 exact bits_eq hx.1 hx.2 hy.1 hy.2 e
end Go.Proofs.Ytjfagpmklifjlaa.Fr

namespace Go.Proofs.Ytjfagpmklifjlaa.Reg
set_option linter.unusedVariables false
open Go.RowKit Go.Proofs.Ytjfagpmklifjlaa.Base Go.Proofs.Ytjfagpmklifjlaa.Pure Go.Proofs.Ytjfagpmklifjlaa.Cell Go.Joins

def withX (xs : List Int) (x y : Int) (on : Bool) : List Int := if okR xs ∧ Ok x y then withR xs x.toNat y.toNat on else xs
def withB (xs : List Int) (x y : Int) : Bool := decide (okR xs ∧ Ok x y)
theorem withX_in {xs : List Int} {x y : Nat} (ho : okR xs) (hx : x < 8) (hy : y < 8) (on : Bool) : withX xs (x : Int) (y : Int) on = withR xs x y on ∧ withB xs (x : Int) (y : Int) = true := by
 have hk : okR xs ∧ Ok (x : Int) (y : Int) := ⟨ho, by unfold Ok; omega⟩
 unfold withX withB
 rw [if_pos hk, Int.toNat_natCast, Int.toNat_natCast]
 exact ⟨rfl, decide_eq_true hk⟩
theorem withX_out {xs : List Int} {x y : Int} (h : ¬ (okR xs ∧ Ok x y)) (on : Bool) : withX xs x y on = xs ∧ withB xs x y = false := by
 unfold withX withB
 rw [if_neg h]
 exact ⟨rfl, decide_eq_false h⟩
def WithPost (xs : List Int) (n : Nat) (b : Bool) (w : World) (e : Ending) (w' : World) : Prop :=
 ∃ A cap, e = .returned (.tuple #[.agg #[.slice A n cap], .bool b]) ∧ w'.ownsRow w.heap.size 3 1 (.slice A n cap) n (ints xs) ∧ Below w.heap.size w w'
theorem padded (xs : List Int) (h : xs.length ≤ 8) : splice (List.replicate 8 (Value.int .i64 0)) 0 (ints xs) = ints (pad8 xs) := by
 unfold splice pad8
 rw [List.take_zero, List.nil_append, Nat.zero_add, List.drop_replicate, ints_length]
 unfold ints
 rw [List.map_append, List.map_replicate]
theorem own_full {w : World} {base e n g : Nat} {xs : List Value} (h : w.ownsRow base e 1 (.slice (some ⟨g, 0, none⟩) n n) n xs) : w.heap[g]? = some (.cells xs.toArray e (0, 0)) := by
 rcases h.2 with ⟨h', _⟩ | ⟨g', cap', cur, h', _, hg, _, _, hcs, htake⟩
 ·simp at h'
 ·simp only [Value.slice.injEq, Option.some.injEq, Addr.mk.injEq, and_true, true_and] at h'
  obtain ⟨rfl, rfl⟩ := h'
  rw [hg]
  have : cur = xs.toArray := by
   rw [← htake, List.take_of_length_le (by rw [Array.length_toList]; omega)]
  rw [this]
theorem pow_wrap {x : Nat} (hx : x < 8) : wrap64 ((2 : Int) ^ x) = 2 ^ x ∧ IntKind.i64.wrap ((2 : Int) ^ x) = 2 ^ x := by
 have hcs : x = 0 ∨ x = 1 ∨ x = 2 ∨ x = 3 ∨ x = 4 ∨ x = 5 ∨ x = 6 ∨ x = 7 := by omega
 rcases hcs with rfl | rfl | rfl | rfl | rfl | rfl | rfl | rfl <;> exact ⟨by unfold wrap64; decide, by rw [IntKind.wrap_i64]; decide⟩
def RW3 (w : World) (v : Value) (x y : Int) (u : Value) (W : World) : Prop :=
 Below w.heap.size w W ∧ w.heap.size + 3 ≤ W.heap.size ∧ W.heap[w.heap.size]? = some (.cells #[v] 26) ∧ W.heap[w.heap.size + 1]? = some (.cells #[.int .i64 x, .int .i64 y] 38) ∧ W.heap[w.heap.size + 1 + 1]? = some (.cells #[u] 26)
section
variable {w W W' : World} {v : Value} {x y : Int} {u : Value}
theorem rw3_start (w : World) (v : Value) (x y : Int) (u : Value) : RW3 w v x y u (((w.alloc (.cells #[v] 26)).alloc (.cells #[.int .i64 x, .int .i64 y] 38)).alloc (.cells #[u] 26)) := by
 obtain ⟨a, b, c⟩ := three (w := w) (Below.refl _ (((w.alloc (.cells #[v] 26)).alloc (.cells #[.int .i64 x, .int .i64 y] 38)).alloc (.cells #[u] 26)))
 exact ⟨below_alloc3 _ _ _ _, by simp, a, b, c⟩
theorem RW3.on {B : Nat} (h : RW3 w v x y u W) (hb : Below B W W') (hB : w.heap.size + 3 ≤ B) : RW3 w v x y u W' := by
 obtain ⟨a, b, c, d, e⟩ := h
 have hz := hb.size
 exact ⟨a.trans (hb.mono (by omega)), by omega, (hb.block _ (by omega)).trans c, (hb.block _ (by omega)).trans d, (hb.block _ (by omega)).trans e⟩
theorem RW3.cells (h : RW3 w v x y u W) : W.cell? ⟨w.heap.size, 0, none⟩ = some v ∧ W.cell? ⟨w.heap.size + 1, 0, none⟩ = some (.int .i64 x) ∧ W.cell? ⟨w.heap.size + 1, 1, none⟩ = some (.int .i64 y) ∧ W.cell? ⟨w.heap.size + 1 + 1, 0, none⟩ = some u ∧ W.frozen? ⟨w.heap.size + 1 + 1, 0, none⟩ = false := by
 obtain ⟨_, _, c, d, e⟩ := h
 exact ⟨(cellAt c 0).1.trans rfl, (cellAt d 0).1.trans rfl, (cellAt d 1).1.trans rfl, (cellAt e 0).1.trans rfl, (cellAt e 0).2⟩
end
theorem rowB_src {w : World} {B : Nat} {A : Option Addr} {xs : List Int} (h : RowB w B A xs) (h0 : 0 < (ints xs).length) : ∃ ad, A = some ad ∧ ∀ j v, (ints xs)[j]? = some v → w.cell? (ad.add j) = some v := by
 rw [ints_length] at h0
 obtain ⟨b, off, h1, h2⟩ := h
 refine ⟨⟨b, off, none⟩, (h1 h0).1, fun j v hv => ?_⟩
 unfold ints at hv
 rw [List.getElem?_map] at hv
 obtain ⟨x, hx, rfl⟩ := Option.map_eq_some_iff.1 hv
 rw [show (⟨b, off, none⟩ : Addr).add j = ⟨b, off + j, none⟩ by unfold Addr.add; split <;> simp_all]
 exact h2 j x hx
theorem rowB_src' {w : World} {B : Nat} {ad : Addr} {xs : List Int} (h : RowB w B (some ad) xs) : ∀ j v, (ints xs)[j]? = some v → w.cell? (ad.add j) = some v := by
 intro j v hv
 have h0 : 0 < (ints xs).length := by
  rcases Nat.eq_zero_or_pos (ints xs).length with k | k
  ·rw [List.eq_nil_of_length_eq_zero k] at hv; simp at hv
  ·exact k
 obtain ⟨ad', ha, hc⟩ := rowB_src h h0
 injection ha with ha
 subst ha
 exact hc j v hv
theorem own_of_block {w : World} {base e g n : Nat} {xs : List Value} (hg : w.heap[g]? = some (.cells xs.toArray e (0, 0))) (hn : xs.length = n) (hb : base ≤ g) (hm : n ≤ maxLen) : w.ownsRow base e 1 (.slice (some ⟨g, 0, none⟩) n n) n xs :=
 ⟨by omega, .inr ⟨g, n, xs.toArray, rfl, hb, hg, Nat.le_refl _, hm, by rw [Nat.mul_one, ← hn]; simp, by rw [Nat.mul_one, ← hn]; simp⟩⟩
theorem ints_oneCell (xs : List Int) : ∀ v ∈ ints xs, v.oneCell' = true := by
 intro v hv
 unfold ints at hv
 obtain ⟨x, _, rfl⟩ := List.mem_map.1 hv
 rfl
theorem row_cell {w : World} {base n g cap : Nat} {ys : List Int} (h : w.ownsRow base 3 1 (.slice (some ⟨g, 0, none⟩) n cap) n (ints ys)) {y : Nat} (hy : y < n) : w.cell? ⟨g, y, none⟩ = some (.int .i64 (rowD ys y)) ∧ w.frozen? ⟨g, y, none⟩ = false := by
 have hl : ys.length = n := by have := h.1; rw [ints_length] at this; omega
 refine ⟨?_, h.frozenAt y⟩
 rw [h.cellAt y (by omega)]
 exact ints_at (by rw [rowD_at (List.getElem?_eq_getElem (by omega))]; exact List.getElem?_eq_getElem (by omega))
theorem with_end {w W : World} {v u : Value} {x y : Int} {A : Option Addr} {m cap : Nat} {ys : List Int} {b : Bool} (h : RW3 w v x y u W) (ho : W.ownsRow (w.heap.size + 3) 3 1 (.slice A m cap) m (ints ys)) :
  (W.setCell ⟨w.heap.size + 1 + 1, 0, none⟩ (.slice A m cap)).cell? ⟨w.heap.size + 1 + 1, 0, none⟩ = some (.slice A m cap) ∧ WithPost ys m b w (.returned (.tuple #[.agg #[.slice A m cap], .bool b])) (W.setCell ⟨w.heap.size + 1 + 1, 0, none⟩ (.slice A m cap)) := by
 refine ⟨World.cell?_setCell_same (w := W) _ _ h.cells.2.2.2.1, A, cap, rfl, ?_, h.1.setCell (by show w.heap.size ≤ w.heap.size + 1 + 1; omega) _⟩
 exact own_base (ownsRow_setCell_below ho (by show w.heap.size + 1 + 1 < w.heap.size + 3; omega) _) (by omega)

set_option maxRecDepth 100000 in
set_option maxHeartbeats 4000000 in
theorem iWithCell (w : World) (A : Option Addr) (n cap B : Nat) (xs : List Int) (hx : xs.length = n) (hn : (n : Int) ≤ 1048576) (h : RowB w B A xs) (hB : B ≤ w.heap.size) (hcap : A = none → n = 0 ∧ cap = 0) (x y : Int) (on : Bool) :
  Calls Try.prog 88 #[.agg #[.slice A n cap], .agg #[.int .i64 x, .int .i64 y], .bool on] w (WithPost (withX xs x y on) (withX xs x y on).length (withB xs x y) w) := by
 obtain ⟨i0, hi, hz0, hz1, hz2⟩ := info_parts intInfo
 have T0 := Lib.hid (rw3_start w (.slice A n cap) x y (.slice none 0 0))
 have HOk := Lib.hid (fun W (hb : Below w.heap.size w W) => iRegionOk W A n cap B xs hx (by omega) (h.below hb hB) (by have := hb.size; omega))
 have HRow := Lib.hid (fun W (hb : Below w.heap.size w W) => h.below hb hB)
 have HX := Lib.hid hx
 clear hx h
 by_cases hk : okR xs ∧ Ok x y
 ·obtain ⟨ho, hok⟩ := hk
  obtain ⟨x', y', rfl, rfl, hx8, hy8⟩ := ok_nat hok
  obtain ⟨e1, e2⟩ := withX_in ho hx8 hy8 on
  rw [e1, e2, withR_length ho.1]
  rw [okRB_of ho] at HOk
  have HCk := Lib.hid (fun W => cellOk (x' : Int) (y' : Int) W)
  rw [okB_of hok] at HCk
  have hn8 : n ≤ 8 := by have := ho.1; have := HX.out; omega
  have HPad := Lib.hid (padded xs ho.1)
  have HLen := Lib.hid (pad8_length ho.1)
  have hr := rowD_ok ho y'
  have HRD := Lib.hid (rowD_pad8 xs y')
  have HWR := Lib.hid (show withR xs x' y' on = (pad8 xs).set y' (putB (rowD xs y') x' on) from rfl)
  have hTab := table hr.1 hr.2 hx8
  have hp := pow_wrap hx8
  clear e1 e2 hok ho
  generalize rowD xs y' = r at HRD HWR hTab hr
  go_enter Try.func88, Try.ntmps88
  go_wp2_with fail
  refine (HOk.out _ T0.out.1).mono ?_
  rintro e w1 ⟨rfl, hb1⟩
  have T1 := T0.out.on hb1 T0.out.2.1
  clear T0 hb1 HOk
  obtain ⟨c0, c1, c2, c3, f3⟩ := T1.cells
  go_wp2_with fail
  refine (HCk.out _).mono ?_
  rintro e w2 ⟨rfl, hb2⟩
  have T2 := T1.on hb2 T1.2.1
  clear T1 hb2 HCk c0 c1 c2 c3 f3
  obtain ⟨c0, c1, c2, c3, f3⟩ := T2.cells
  have hT2 := T2.2.1
  have hszI : (Try.prog.info? 3).map (·.size) = some 1 := by rw [hi]; simp [hz1]
  have HLI := Lib.hid (show (ints xs).length = Nat.min n 8 by rw [ints_length, HX.out]; exact (Nat.min_eq_left hn8).symm)
  have HMk := Lib.hid (fun w3 (hown3 : w3.ownsRow (w.heap.size + 3) 3 1 (.slice (some ⟨w2.heap.size, 0, none⟩) 8 8) 8 (madeCells (Value.int .i64 0).cells (8 * 1)).toList) (hg3 : w2.grownBy w3 none) =>
   (show Below (w.heap.size + 3) w2 w3 ∧ w3.heap[w2.heap.size]? = some (.cells (List.replicate 8 (Value.int .i64 0)).toArray 3 (0, 0)) ∧ (0 < (ints xs).length → ∃ ad, A = some ad ∧ ∀ j v, (ints xs)[j]? = some v → w3.cell? (ad.add j) = some v) ∧ w3.cell? ⟨w.heap.size, 0, none⟩ = some (.slice A n cap) from by
    have hb3 : Below (w.heap.size + 3) w2 w3 := (Below.refl _ _).grown hg3 hT2 (by simp)
    refine ⟨hb3, ?_, fun k0 => rowB_src (HRow.out w3 (T2.1.trans (hb3.mono (by omega)))) k0, hg3.cell c0 (by simp)⟩
    have := own_full hown3
    rwa [show (Value.int .i64 0).cells = #[.int .i64 0] from rfl, Nat.mul_one, toList_madeCells_one] at this))
  have hfit : 0 + (ints xs).length ≤ (List.replicate 8 (Value.int .i64 0)).length := by
   rw [HLI.out, Nat.zero_add, List.length_replicate]; exact Nat.min_le_right n 8
  go_wp2_with (first | (at_make; refine wpList_make_full _ rfl _ _ 24 rfl (w.heap.size + 3) 3 i0 (.int .i64 0) 1 Try.underlying24 hi hz0 hz1 .i64 .i64 8 8 8 rfl rfl rfl rfl (by rw [hz2]; omega) (by unfold maxLen; omega) hT2 ?_; intro w3 hown3 hg3; obtain ⟨hb3, hG3, hSrc, c0'⟩ := HMk.out w3 hown3 hg3; have HG3 := Lib.hid hG3; have HSrc := Lib.hid hSrc; clear hown3 hg3 hG3 hSrc) | ((with_reducible change wpList _ _ _ (_ :: _) _ _); refine wpList_copy_splice (by rfl) _ _ 24 24 (by rfl) 3 Try.underlying24 hszI (some ⟨w2.heap.size, 0, none⟩) A 8 8 n cap (by rfl) (by rfl) w2.heap.size 0 (List.replicate 8 (Value.int .i64 0)) 3 HG3.out (ints xs) HLI.out (fun k0 => ⟨rfl, HSrc.out k0⟩) hfit (ints_oneCell xs) (w.heap.size + 3) w2 hb3 hT2 ?_; intro w4 hh4 hb4))
  ·obtain rfl : on = true := by assumption
   have T4 := T2.on hb4 (Nat.le_refl _)
   have HOwn := Lib.hid (show w4.ownsRow (w.heap.size + 3) 3 1 (.slice (some ⟨w2.heap.size, 0, none⟩) 8 8) 8 (ints (pad8 xs)) by
    have h1 := hh4.out
    rw [HPad.out] at h1
    exact own_of_block h1 (by rw [ints_length]; exact HLen.out) hT2 (by unfold maxLen; omega))
   obtain ⟨hrc, hrf⟩ := row_cell HOwn.out hy8
   rw [HRD.out] at hrc
   clear hh4 hb4 HG3 HSrc HLI hb3 HPad hi hz0 hz1 hz2 hszI HRow HX T2 HMk hfit c0' c0 c1 c2 c3 f3
   generalize w2.heap.size = g at hT2 HOwn hrc hrf ⊢
   obtain ⟨c0, c1, c2, c3, f3⟩ := T4.cells
   have hne : g ≠ w.heap.size + 2 := by omega
   obtain ⟨_, _, hor, hand, _⟩ := hTab
   obtain ⟨hp1, hp2⟩ := hp
   clear hand
   generalize putB r x' true = v at hor HWR
   go_region
   have T5 : RW3 w (.slice A n cap) (x' : Int) (y' : Int) (.slice none 0 0) (w4.setCell ⟨g, y', none⟩ (.int .i64 v)).drew := T4.on ((Below.refl (w.heap.size + 3) w4).setCell (p := ⟨g, y', none⟩) hT2 (.int .i64 v)).drew (Nat.le_refl _)
   have HO5 := Lib.hid (show (w4.setCell ⟨g, y', none⟩ (.int .i64 v)).drew.ownsRow (w.heap.size + 3) 3 1 (.slice (some ⟨g, 0, none⟩) 8 8) 8 (ints ((pad8 xs).set y' v)) by
    rw [← ints_set]; exact (HOwn.out.stored y' (.int .i64 v)).1)
   clear hrc hrf c0 c1 c2 c3 f3 T4 HOwn
   generalize (w4.setCell ⟨g, y', none⟩ (.int .i64 v)).drew = W5 at T5 HO5 ⊢
   obtain ⟨c0, c1, c2, c3, f3⟩ := T5.cells
   obtain ⟨hres, hpost⟩ := with_end (b := true) T5 HO5.out
   have HP := Lib.hid hpost
   clear hpost
   go_wp2
   rw [HWR.out]
   exact bodyPost_ret (v := .tuple #[.agg #[.slice (some ⟨g, 0, none⟩) 8 8], .bool true]) (by simp [results, Try.results88, go_sem, hres]) rfl HP.out
  ·obtain rfl : on = false := by assumption
   have T4 := T2.on hb4 (Nat.le_refl _)
   have HOwn := Lib.hid (show w4.ownsRow (w.heap.size + 3) 3 1 (.slice (some ⟨w2.heap.size, 0, none⟩) 8 8) 8 (ints (pad8 xs)) by
    have h1 := hh4.out
    rw [HPad.out] at h1
    exact own_of_block h1 (by rw [ints_length]; exact HLen.out) hT2 (by unfold maxLen; omega))
   obtain ⟨hrc, hrf⟩ := row_cell HOwn.out hy8
   rw [HRD.out] at hrc
   clear hh4 hb4 HG3 HSrc HLI hb3 HPad hi hz0 hz1 hz2 hszI HRow HX T2 HMk hfit c0' c0 c1 c2 c3 f3
   generalize w2.heap.size = g at hT2 HOwn hrc hrf ⊢
   obtain ⟨c0, c1, c2, c3, f3⟩ := T4.cells
   have hne : g ≠ w.heap.size + 2 := by omega
   obtain ⟨_, _, hor, hand, _⟩ := hTab
   obtain ⟨hp1, hp2⟩ := hp
   clear hor
   generalize putB r x' false = v at hand HWR
   go_region
   have T5 : RW3 w (.slice A n cap) (x' : Int) (y' : Int) (.slice none 0 0) (w4.setCell ⟨g, y', none⟩ (.int .i64 v)).drew := T4.on ((Below.refl (w.heap.size + 3) w4).setCell (p := ⟨g, y', none⟩) hT2 (.int .i64 v)).drew (Nat.le_refl _)
   have HO5 := Lib.hid (show (w4.setCell ⟨g, y', none⟩ (.int .i64 v)).drew.ownsRow (w.heap.size + 3) 3 1 (.slice (some ⟨g, 0, none⟩) 8 8) 8 (ints ((pad8 xs).set y' v)) by
    rw [← ints_set]; exact (HOwn.out.stored y' (.int .i64 v)).1)
   clear hrc hrf c0 c1 c2 c3 f3 T4 HOwn
   generalize (w4.setCell ⟨g, y', none⟩ (.int .i64 v)).drew = W5 at T5 HO5 ⊢
   obtain ⟨c0, c1, c2, c3, f3⟩ := T5.cells
   obtain ⟨hres, hpost⟩ := with_end (b := true) T5 HO5.out
   have HP := Lib.hid hpost
   clear hpost
   go_wp2
   rw [HWR.out]
   exact bodyPost_ret (v := .tuple #[.agg #[.slice (some ⟨g, 0, none⟩) 8 8], .bool true]) (by simp [results, Try.results88, go_sem, hres]) rfl HP.out
 ·obtain ⟨e1, e2⟩ := withX_out hk on
  rw [e1, e2, HX.out]
  clear e1 e2
  have hcs : okRB xs = false ∨ okRB xs = true ∧ okB x y = false := by
   by_cases ho : okR xs
   ·exact .inr ⟨okRB_of ho, okB_not fun q => hk ⟨ho, q⟩⟩
   ·exact .inl (okRB_not ho)
  have HCk := Lib.hid (fun W => cellOk x y W)
  generalize okRB xs = b1 at HOk hcs
  generalize okB x y = b2 at HCk hcs
  clear hk
  have HLx := Lib.hid (show (ints xs).length = n * 1 by rw [ints_length, HX.out, Nat.mul_one])
  have HOne := Lib.hid (ints_oneCell xs)
  go_enter Try.func88, Try.ntmps88
  go_wp2_with fail
  refine (HOk.out _ T0.out.1).mono ?_
  rintro e w1 ⟨rfl, hb1⟩
  have T1 := T0.out.on hb1 T0.out.2.1
  clear T0 hb1 HOk
  obtain ⟨c0, c1, c2, c3, f3⟩ := T1.cells
  rcases hcs with rfl | ⟨rfl, rfl⟩
  ·have hT := T1.2.1
   have HN := Lib.hid (World.ownsRow_nil w1 (w.heap.size + 3) 3 1)
   cases A with
   | none =>
    obtain ⟨rfl, rfl⟩ := hcap rfl
    have hnil : xs = [] := List.eq_nil_of_length_eq_zero HX.out
    subst hnil
    obtain ⟨hres, hpost⟩ := with_end (b := false) (ys := []) T1 HN.out
    have HP := Lib.hid hpost
    clear hpost
    go_wp2
    exact bodyPost_ret (v := .tuple #[.agg #[.slice none 0 0], .bool false]) (by simp [results, Try.results88, go_sem, hres]) rfl HP.out
   | some ad =>
    have HSrc := Lib.hid (rowB_src' (HRow.out w1 T1.1))
    have HT := Lib.hid T1
    clear T1
    go_wp2_with (first | (at_builtin; refine wpList_append_own _ rfl _ _ 24 rfl (w.heap.size + 3) 3 i0 (.int .i64 0) 1 8 Try.underlying24 hi hz0 hz1 hz2 rfl (by decide) (.slice none 0 0) 0 [] (by rfl) HN.out ad n cap (ints xs) (by rfl) HLx.out HSrc.out HOne.out (by unfold maxLen; omega) (by omega) hT ?_; intro v' w3 hown3 hgrow _; obtain ⟨A', cap', hv'⟩ := own_shape hown3; subst hv'; have hT3 := HT.out.on ((Below.refl (w.heap.size + 3) w1).grown hgrow hT (by simp [Value.ownBlock])) (Nat.le_refl _); obtain ⟨d0, d1, d2, d3, g3⟩ := hT3.cells))
    have HO3 := Lib.hid (show w3.ownsRow (w.heap.size + 3) 3 1 (.slice A' n cap') n (ints xs) by simpa using hown3)
    obtain ⟨hres, hpost⟩ := with_end (b := false) hT3 HO3.out
    have HP := Lib.hid hpost
    clear hpost hown3 hgrow
    go_wp2
    exact bodyPost_ret (v := .tuple #[.agg #[.slice A' n cap'], .bool false]) (by simp [results, Try.results88, go_sem, hres]) rfl HP.out
  ·go_wp2_with fail
   refine (HCk.out _).mono ?_
   rintro e w2 ⟨rfl, hb2⟩
   have T2 := T1.on hb2 T1.2.1
   clear T1 hb2 HCk c0 c1 c2 c3 f3
   obtain ⟨c0, c1, c2, c3, f3⟩ := T2.cells
   have hT := T2.2.1
   have HN := Lib.hid (World.ownsRow_nil w2 (w.heap.size + 3) 3 1)
   cases A with
   | none =>
    obtain ⟨rfl, rfl⟩ := hcap rfl
    have hnil : xs = [] := List.eq_nil_of_length_eq_zero HX.out
    subst hnil
    obtain ⟨hres, hpost⟩ := with_end (b := false) (ys := []) T2 HN.out
    have HP := Lib.hid hpost
    clear hpost
    go_wp2
    exact bodyPost_ret (v := .tuple #[.agg #[.slice none 0 0], .bool false]) (by simp [results, Try.results88, go_sem, hres]) rfl HP.out
   | some ad =>
    have HSrc := Lib.hid (rowB_src' (HRow.out w2 T2.1))
    have HT := Lib.hid T2
    clear T2
    go_wp2_with (first | (at_builtin; refine wpList_append_own _ rfl _ _ 24 rfl (w.heap.size + 3) 3 i0 (.int .i64 0) 1 8 Try.underlying24 hi hz0 hz1 hz2 rfl (by decide) (.slice none 0 0) 0 [] (by rfl) HN.out ad n cap (ints xs) (by rfl) HLx.out HSrc.out HOne.out (by unfold maxLen; omega) (by omega) hT ?_; intro v' w3 hown3 hgrow _; obtain ⟨A', cap', hv'⟩ := own_shape hown3; subst hv'; have hT3 := HT.out.on ((Below.refl (w.heap.size + 3) w2).grown hgrow hT (by simp [Value.ownBlock])) (Nat.le_refl _); obtain ⟨d0, d1, d2, d3, g3⟩ := hT3.cells))
    have HO3 := Lib.hid (show w3.ownsRow (w.heap.size + 3) 3 1 (.slice A' n cap') n (ints xs) by simpa using hown3)
    obtain ⟨hres, hpost⟩ := with_end (b := false) hT3 HO3.out
    have HP := Lib.hid hpost
    clear hpost hown3 hgrow
    go_wp2
    exact bodyPost_ret (v := .tuple #[.agg #[.slice A' n cap'], .bool false]) (by simp [results, Try.results88, go_sem, hres]) rfl HP.out
end Go.Proofs.Ytjfagpmklifjlaa.Reg

namespace Go.Proofs.Ytjfagpmklifjlaa.Fr
set_option linter.unusedVariables false
set_option linter.unusedSimpArgs false
open Go.RowKit Go.Proofs.Ytjfagpmklifjlaa.Pure Go.Proofs.Ytjfagpmklifjlaa.Reg Go.Proofs.Ytjfagpmklifjlaa.Cnt Go.Proofs.Ytjfagpmklifjlaa.Dom Go.Proofs.Ytjfagpmklifjlaa.Dms Go.Proofs.Ytjfagpmklifjlaa.Til Go.Joins
open Go.Proofs.Ytjfagpmklifjlaa.Lis (allT all_til all_length)

theorem withT_cnt {xs : List Int} (ok : okR xs) {d : Dm} (hd : okM d = true) : (if hasB xs d.1 d.2.1 = true ∧ hasB xs (sx d.1 d.2.2) (sy d.2.1 d.2.2) = true then tilesR (withX (withX xs d.1 d.2.1 false) (sx d.1 d.2.2) (sy d.2.1 d.2.2) false) else 0) = cntD xs d := by
 unfold cntD
 by_cases h : hasB xs d.1 d.2.1 = true ∧ hasB xs (sx d.1 d.2.2) (sy d.2.1 d.2.2) = true
 ·obtain ⟨h1, h2⟩ := h
  rw [if_pos ⟨h1, h2⟩]
  obtain ⟨⟨a0, a1, b0, b1⟩, c0, c1, e0, e1⟩ := second_in hd
  obtain ⟨x, y, b⟩ := d
  simp only at a0 a1 b0 b1 c0 c1 e0 e1 h1 h2 ⊢
  obtain ⟨x, rfl⟩ : ∃ n : Nat, x = (n : Int) := ⟨x.toNat, by omega⟩
  obtain ⟨y, rfl⟩ : ∃ n : Nat, y = (n : Int) := ⟨y.toNat, by omega⟩
  obtain ⟨u, hu⟩ : ∃ n : Nat, sx (x : Int) b = (n : Int) := ⟨(sx (x : Int) b).toNat, by omega⟩
  obtain ⟨v, hv⟩ : ∃ n : Nat, sy (y : Int) b = (n : Int) := ⟨(sy (y : Int) b).toNat, by omega⟩
  rw [hu, hv] at h2 ⊢
  rw [(withX_in ok (x := x) (y := y) (by omega) (by omega) false).1, (withX_in (okR_with ok (by omega) (by omega)) (x := u) (y := v) (by omega) (by omega) false).1]
  exact (hold_two ok (by omega) (by omega) (by omega) (by omega) hu hv hd h1 h2).symm
 ·rw [if_neg h, hold_none ok (fun q => h q.2)]; rfl
theorem tiles_cnt {xs : List Int} (ok : okR xs) : tilesR xs = ((allT xs).length : Int) := (all_length ok).symm
end Go.Proofs.Ytjfagpmklifjlaa.Fr
