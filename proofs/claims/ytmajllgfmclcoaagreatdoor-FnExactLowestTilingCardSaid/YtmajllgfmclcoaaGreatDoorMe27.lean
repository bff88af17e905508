/- ExS in one text. -/
import Derived.Test.YtmajllgfmclcoaaGreatDoorMe26
import Derived.Maps.OwnOps
import Derived.Maps.OwnSet
import Derived.Maps.Views
import Derived.WalkSmall
import Derived.OneCell

namespace Go.Proofs.YtmajllgfmclcoaaGreatDoor.Ext
set_option linter.unusedVariables false
set_option linter.unusedSimpArgs false
set_option maxRecDepth 100000
open Go.RowKit Go.Proofs.YtmajllgfmclcoaaGreatDoor.Dms Go.Proofs.YtmajllgfmclcoaaGreatDoor.Til Go.Proofs.YtmajllgfmclcoaaGreatDoor.Dss Go.Proofs.YtmajllgfmclcoaaGreatDoor.Lis Go.Proofs.YtmajllgfmclcoaaGreatDoor.Sets Go.Joins
open Go.Proofs.YtmajllgfmclcoaaGreatDoor.Reg hiding Yes
open Go.Maps (Keyed)
open Go.ChangeMaps Go.MapKept

theorem uk : Tryz.prog.underlying 123 = some (.int .u64) := by kernel_rfl
theorem ub : Tryz.prog.underlying 4 = some .bool := by kernel_rfl
theorem um : Tryz.prog.underlying 120 = some (.map 123 4) := by kernel_rfl
theorem law : Keyed Tryz.prog 123 := Maps.int_keyed uk
theorem zeroB (w : World) : (zeroValue 4).run Tryz.prog w = .ok (.bool false) w := by kernel_rfl
noncomputable abbrev RE : Value → Option (DataW Unit × List MemPlace) := plainElem (H := Unit) Tryz.prog 4
theorem wfU {x : Nat} (h : x < 18446744073709551616) : (Lit.int .u64 (x : Int)).wf = true := by
 have h1 : IntKind.u64.min = 0 := by decide +kernel
 have h2 : IntKind.u64.max = 18446744073709551615 := by decide +kernel
 unfold Lit.wf
 simp [h1, h2]
 omega
theorem keyU {x : Nat} (h : x < 18446744073709551616) : keyOf Tryz.prog 123 (.int .u64 (x : Int)) = some (.int .u64 (x : Int)) := Maps.keyOf_int_mk uk (wfU h)
def MapOk (W : World) (b q : Nat) : Prop := ∃ n D, n ≤ q ∧ W.ownsMap Tryz.prog 123 RE b n D ∧ ∀ x : Nat, x < 18446744073709551616 → D.atKey (.int .u64 (x : Int)) (.lit (.bool false)) = .lit (.bool true) → LsG (bt x) = []
theorem elem_bool {v : Value} {z : DataW Unit × List MemPlace} (h : RE v = some z) : ∃ r, v = .bool r ∧ z.1 = .lit (.bool r) := by
 unfold RE plainElem at h
 simp only [ub] at h
 cases v <;> simp at h
 subst h
 exact ⟨_, rfl, rfl⟩
theorem MapOk.look {W : World} {b q x : Nat} (h : MapOk W b q) (hx : x < 18446744073709551616) : ∃ r, (Instr.lookup 120 (.map (some b)) (.int .u64 (x : Int)) false).run Tryz.prog W = .ok (.bool r) W ∧ (r = true → LsG (bt x) = []) := by
 obtain ⟨n, D, hn, ho, hd⟩ := h
 obtain ⟨v, ps, hrun, hv⟩ := ho.lookup law um (zeroB W) (plainElem_bool (H := Unit) ub false) (keyU hx)
 obtain ⟨r, rfl, hr⟩ := elem_bool hv
 refine ⟨r, hrun, fun e => hd x hx ?_⟩
 simp only at hr
 rw [hr, e]
theorem MapOk.same {W W' : World} {b q : Nat} (h : MapOk W b q) (hb : W'.heap[b]? = W.heap[b]?) : MapOk W' b q := by
 obtain ⟨n, D, hn, ⟨es, clock, h1, h2⟩, hd⟩ := h
 exact ⟨n, D, hn, ⟨es, clock, hb.trans h1, h2⟩, hd⟩
theorem MapOk.lt {W : World} {b q : Nat} (h : MapOk W b q) : b < W.heap.size := by
 obtain ⟨n, D, hn, ho, hd⟩ := h
 exact ho.lt
theorem MapOk.mono {W : World} {b q q' : Nat} (h : MapOk W b q) (hq : q ≤ q') : MapOk W b q' := by
 obtain ⟨n, D, hn, ho, hd⟩ := h
 exact ⟨n, D, by omega, ho, hd⟩
theorem MapOk.new (W : World) : MapOk (W.alloc (.map #[] 0)) W.heap.size 0 := ⟨0, .map [], Nat.le_refl _, World.ownsMap_made W _ _ _, fun x _ h => by cases h⟩
theorem MapOk.put {W W' : World} {b q n x : Nat} {D : DataW Unit} {r : Bool} (hn : n ≤ q) (ho : W.ownsMap Tryz.prog 123 RE b n D) (hd : ∀ x : Nat, x < 18446744073709551616 → D.atKey (.int .u64 (x : Int)) (.lit (.bool false)) = .lit (.bool true) → LsG (bt x) = [])
  (hx : x < 18446744073709551616) (ho' : W'.ownsMap Tryz.prog 123 RE b (n + 1) (D.put (.int .u64 (x : Int)) (.lit (.bool r)))) (hr : r = true → LsG (bt x) = []) : MapOk W' b (q + 1) := by
 refine ⟨n + 1, _, by omega, ho', fun y hy h => ?_⟩
 by_cases e : y = x
 ·subst e
  rw [Maps.atKey_put_same ho.isMap (law.key (keyU hy))] at h
  injection h with h; injection h with h
  exact hr h
 ·rw [Maps.atKey_put_other (fun q => e (by injection q with _ q; exact Int.ofNat.inj q))] at h
  exact hd y hy h

structure Kp (K : Nat → Prop) (W W' : World) : Prop where
 os : W'.os = W.os
 tape : W'.tape = W.tape
 output : W'.output = W.output
 size : W.heap.size ≤ W'.heap.size
 block : ∀ j, K j → W'.heap[j]? = W.heap[j]?
theorem Kp.refl (K : Nat → Prop) (W : World) : Kp K W W := ⟨rfl, rfl, rfl, Nat.le_refl _, fun _ _ => rfl⟩
theorem Kp.trans {K : Nat → Prop} {a b c : World} (h : Kp K a b) (k : Kp K b c) : Kp K a c :=
 ⟨k.os.trans h.os, k.tape.trans h.tape, k.output.trans h.output, Nat.le_trans h.size k.size, fun i hi => (k.block i hi).trans (h.block i hi)⟩
theorem Kp.less {K K' : Nat → Prop} {a b : World} (h : Kp K a b) (hk : ∀ j, K' j → K j) : Kp K' a b := ⟨h.os, h.tape, h.output, h.size, fun i hi => h.block i (hk i hi)⟩
theorem Kp.drew {K : Nat → Prop} {a b : World} (h : Kp K a b) : Kp K a b.drew := ⟨h.os, h.tape, h.output, h.size, h.block⟩
theorem Kp.of {K : Nat → Prop} {a b : World} (h : Below a.heap.size a b) (hk : ∀ j, K j → j < a.heap.size) : Kp K a b := ⟨h.os, h.tape, h.output, h.size, fun i hi => h.block i (hk i hi)⟩
theorem Kp.below {K : Nat → Prop} {a b : World} {B : Nat} (h : Kp K a b) (hk : ∀ j, j < B → K j) : Below B a b := ⟨h.os, h.tape, h.output, h.size, fun i hi => h.block i (hk i hi)⟩

theorem mem_ins {W : World} {lo hi h : Nat} {L : List (List Dm)} {S : List (Option Addr × Nat)} (k : Ins W lo hi h L S) {s : Option Addr × Nat} (hs : s ∈ S) : ∃ x, RowIn W lo hi 63 3 (.slice s.1 h s.2) h (rowM x) := by
 obtain ⟨i, hi1, e⟩ := List.getElem_of_mem hs
 exact ⟨_, k.2.1 i s _ (by rw [List.getElem?_eq_getElem hi1, e]) (List.getElem?_eq_getElem (by rw [← k.1]; exact hi1))⟩
theorem ins_grown {W W' : World} {lo hi h : Nat} {L : List (List Dm)} {S : List (Option Addr × Nat)} {row : Option Nat} (k : Ins W lo hi h L S) (hg : W.grownBy W' row) (hd : ∀ s ∈ S, ∀ g, row = some g → blk s.1 ≠ some g) : Ins W' lo hi h L S :=
 ⟨k.1, fun i s x hs hx => by
  have r := k.2.1 i s x hs hx
  refine ⟨r.1.kept hg ?_, r.2⟩
  rw [ownBlock_slice]
  cases hb : blk s.1 with
  | none => exact .inl rfl
  | some g => exact .inr (fun e => hd s (List.mem_of_getElem? hs) g e.symm hb), k.2.2⟩
theorem ins_set {W : World} {lo hi h : Nat} {L : List (List Dm)} {S : List (Option Addr × Nat)} (k : Ins W lo hi h L S) {a : Addr} (ha : a.block < lo) (u : Value) : Ins (W.setCell a u) lo hi h L S :=
 ⟨k.1, fun i s x hs hx => ⟨ownsRow_setCell_below (k.2.1 i s x hs hx).1 ha u, (k.2.1 i s x hs hx).2⟩, k.2.2⟩

def caps (bN bT : Nat) : Array Value := #[.pointer (some ⟨bT, 0, none⟩), .pointer (some ⟨bN, 0, none⟩), .pointer (some ⟨bT + 3, 0, none⟩), .pointer (some ⟨bT + 1, 0, none⟩), .pointer (some ⟨bT + 4, 0, none⟩)]
abbrev TLs : TypeId := 58
abbrev TL : TypeId := 27
structure Rw (K : Nat → Prop) (bT h : Nat) (Ts : List (List Dm)) (M : List Dm) (W : World) (A : Option Addr) (cap : Nat) (S : List (Option Addr × Nat)) (AL : Option Addr) (cL : Nat) : Prop where
 vT : W.heap[bT]? = some (.cells #[.slice A Ts.length cap] TLs)
 vL : W.heap[bT + 1]? = some (.cells #[.slice AL M.length cL] TL)
 oT : W.ownsRow (bT + 5) TL 1 (.slice A Ts.length cap) Ts.length (outs h S)
 oL : W.ownsRow (bT + 5) 63 3 (.slice AL M.length cL) M.length (rowM M)
 ins : Ins W (bT + 5) W.heap.size h Ts S
 dif : ∀ s ∈ S, Dif AL s.1
 kA : ∀ j, K j → blk A ≠ some j
 kL : ∀ j, K j → blk AL ≠ some j
structure St (K : Nat → Prop) (bN bT lim h q : Nat) (Ts : List (List Dm)) (M : List Dm) (W : World) : Prop where
 tab : Tab W
 kt : K 0
 kn : W.heap[bN]? = some (.cells #[.int .i64 (lim : Int)] 3)
 kh : W.heap[bT + 3]? = some (.cells #[.map (some (bT + 2))] 120)
 ke : W.heap[bT + 4]? = some (.cells #[.func (.func 109) #[] (caps bN bT)] 121)
 km : MapOk W (bT + 2) q
 hn : bN < bT
 ks : ∀ j, K j → j < W.heap.size ∧ j ≠ bT ∧ j ≠ bT + 1 ∧ j ≠ bT + 2
 rows : ∃ A cap S AL cL, Rw K bT h Ts M W A cap S AL cL
section
variable {K : Nat → Prop} {bN bT lim h q : Nat} {Ts : List (List Dm)} {M : List Dm} {W W' W2 : World}
theorem Rw.on {A : Option Addr} {cap : Nat} {S : List (Option Addr × Nat)} {AL : Option Addr} {cL : Nat} (k : Rw K bT h Ts M W A cap S AL cL) (hb : Below W.heap.size W W') : Rw K bT h Ts M W' A cap S AL cL :=
 ⟨(hb.block _ (lt_of_block k.vT)).trans k.vT, (hb.block _ (lt_of_block k.vL)).trans k.vL, Reg.own_below k.oT hb (Nat.le_refl _), Reg.own_below k.oL hb (Nat.le_refl _), (k.ins.on hb).wide (Nat.le_refl _) hb.size, k.dif, k.kA, k.kL⟩
theorem St.on (k : St K bN bT lim h q Ts M W) (hb : Below W.heap.size W W') : St K bN bT lim h q Ts M W' := by
 obtain ⟨A, cap, S, AL, cL, r⟩ := k.rows
 exact ⟨k.tab.on hb (Nat.le_refl _), k.kt, (hb.block _ (lt_of_block k.kn)).trans k.kn, (hb.block _ (lt_of_block k.kh)).trans k.kh, (hb.block _ (lt_of_block k.ke)).trans k.ke, k.km.same (hb.block _ k.km.lt), k.hn, fun j hj => ⟨Nat.lt_of_lt_of_le (k.ks j hj).1 hb.size, (k.ks j hj).2⟩, A, cap, S, AL, cL, r.on hb⟩
theorem St.drew (k : St K bN bT lim h q Ts M W) : St K bN bT lim h q Ts M W.drew := by
 obtain ⟨A, cap, S, AL, cL, r⟩ := k.rows
 exact ⟨k.tab, k.kt, k.kn, k.kh, k.ke, k.km.same rfl, k.hn, k.ks, A, cap, S, AL, cL, ⟨r.vT, r.vL, r.oT, r.oL, r.ins, r.dif, r.kA, r.kL⟩⟩
theorem St.kp (k : St K bN bT lim h q Ts M W) (hb : Below W.heap.size W W') : Kp K W W' := Kp.of hb (fun j hj => (k.ks j hj).1)
theorem St.less (k : St K bN bT lim h q Ts M W) {P : Nat → Prop} (hP : ∀ j, P j → K j) (hg : P 0) : St P bN bT lim h q Ts M W := by
 obtain ⟨A, cap, S, AL, cL, r⟩ := k.rows
 exact ⟨k.tab, hg, k.kn, k.kh, k.ke, k.km, k.hn, fun j hj => k.ks j (hP j hj), A, cap, S, AL, cL, ⟨r.vT, r.vL, r.oT, r.oL, r.ins, r.dif, fun j hj => r.kA j (hP j hj), fun j hj => r.kL j (hP j hj)⟩⟩
theorem row_from {e size n c : Nat} {A : Option Addr} {xs : List Value} (ho : W.ownsRow (bT + 5) e size (.slice A n c) n xs) {g : Nat} (hg : blk A = some g) : bT + 5 ≤ g ∧ g < W.heap.size := ho.lt g (by rw [ownBlock_slice]; exact hg)

theorem St.grow_var {W1 : World} {row : Option Nat} (k : St K bN bT lim h q Ts M W) (hrow : ∀ g, row = some g → bT + 5 ≤ g) (hk : ∀ j, K j → row ≠ some j) (hg : W.grownBy W1 row) (v : Nat) (hv : v = bT ∨ v = bT + 1) (u : Value) :
  Tab (W1.setCell ⟨v, 0, none⟩ u) ∧ (W1.setCell ⟨v, 0, none⟩ u).heap[bN]? = W.heap[bN]? ∧ (W1.setCell ⟨v, 0, none⟩ u).heap[bT + 2]? = W.heap[bT + 2]? ∧ (W1.setCell ⟨v, 0, none⟩ u).heap[bT + 3]? = W.heap[bT + 3]? ∧ (W1.setCell ⟨v, 0, none⟩ u).heap[bT + 4]? = W.heap[bT + 4]? ∧ Kp K W (W1.setCell ⟨v, 0, none⟩ u) := by
 have hn := k.hn
 have one : ∀ j, j < W.heap.size → row ≠ some j → j ≠ v → (W1.setCell ⟨v, 0, none⟩ u).heap[j]? = W.heap[j]? := fun j h1 h2 h3 =>
  (Below.heap_setCell W1 ⟨v, 0, none⟩ u j h3).trans (hg.block j h1 (fun e => h2 e.symm))
 have low : ∀ j, j < bT + 5 → row ≠ some j := fun j hj e => by have := hrow j e; omega
 have kks : ∀ j, K j → (W1.setCell ⟨v, 0, none⟩ u).heap[j]? = W.heap[j]? := fun j hj => by
  obtain ⟨a, b, c, d⟩ := k.ks j hj
  exact one j a (hk j hj) (by rcases hv with e | e <;> rw [e] <;> assumption)
 refine ⟨k.tab.same (kks _ k.kt), one bN (lt_of_block k.kn) (low _ (by omega)) (by omega), one (bT + 2) k.km.lt (low _ (by omega)) (by omega), one (bT + 3) (lt_of_block k.kh) (low _ (by omega)) (by omega), one (bT + 4) (lt_of_block k.ke) (low _ (by omega)) (by omega), hg.os, hg.tape, hg.output, ?_, kks⟩
 show _ ≤ (W1.heap.modify _ _).size
 rw [Array.size_modify]; exact hg.size
theorem St.push {W1 : World} {A : Option Addr} {cap : Nat} {S : List (Option Addr × Nat)} {AL : Option Addr} {cL : Nat} (k : St K bN bT lim h q Ts M W) (r : Rw K bT h Ts M W A cap S AL cL) {d : Dm} {g cL' : Nat}
  (hg : W.grownBy W1 (blk AL)) (hat : some g = blk AL ∨ g = W.heap.size) (ho : W1.ownsRow (bT + 5) 63 3 (.slice (some ⟨g, 0, none⟩) (M.length + 1) cL') (M.length + 1) (rowM M ++ [.int .i64 d.1, .int .i64 d.2.1, .bool d.2.2])) :
  St K bN bT lim h q Ts (M ++ [d]) (W1.setCell ⟨bT + 1, 0, none⟩ (.slice (some ⟨g, 0, none⟩) (M.length + 1) cL')) ∧ Kp K W (W1.setCell ⟨bT + 1, 0, none⟩ (.slice (some ⟨g, 0, none⟩) (M.length + 1) cL')) := by
 have hlow : ∀ g, blk AL = some g → bT + 5 ≤ g := fun g e => (row_from r.oL e).1
 obtain ⟨a1, a2, a3, a4, a5, a6⟩ := k.grow_var hlow (fun j hj => r.kL j hj) hg (bT + 1) (.inr rfl) (.slice (some ⟨g, 0, none⟩) (M.length + 1) cL')
 have hsz := hg.size
 have hsz2 : (W1.setCell ⟨bT + 1, 0, none⟩ (.slice (some ⟨g, 0, none⟩) (M.length + 1) cL')).heap.size = W1.heap.size := by show (W1.heap.modify _ _).size = _; rw [Array.size_modify]
 have hv1 : W1.heap[bT + 1]? = some (.cells #[.slice AL M.length cL] TL) := (hg.block _ (lt_of_block r.vL) (fun e => by have := hlow _ e.symm; omega)).trans r.vL
 have hTn : (Value.slice A Ts.length cap).ownBlock = none ∨ (Value.slice A Ts.length cap).ownBlock ≠ blk AL := by
  rw [ownBlock_slice]
  cases hA : blk A with
  | none => exact .inl rfl
  | some j => exact .inr (fun e => dif_types r.oT r.oL (by decide) j hA e.symm)
 refine ⟨⟨a1, k.kt, a2.trans k.kn, a4.trans k.kh, a5.trans k.ke, k.km.same a3, k.hn, fun j hj => ⟨by have := (k.ks j hj).1; omega, (k.ks j hj).2⟩, A, cap, S, some ⟨g, 0, none⟩, cL', ?_⟩, a6⟩
 refine ⟨?_, ?_, ?_, ?_, ?_, fun s hs j h1 h2 => ?_, r.kA, fun j hj e => ?_⟩
 ·rw [Below.heap_setCell _ _ _ _ (by show bT ≠ bT + 1; omega)]
  exact (hg.block _ (lt_of_block r.vT) (fun e => by have := hlow _ e.symm; omega)).trans r.vT
 ·rw [List.length_append, List.length_singleton]; exact one_setCell hv1
 ·exact ownsRow_setCell_below (r.oT.kept hg hTn) (by show bT + 1 < _; omega) _
 ·rw [rowM_snoc, List.length_append, List.length_singleton]
  exact ownsRow_setCell_below ho (by show bT + 1 < _; omega) _
 ·refine ins_set (Ins.wide (ins_grown r.ins hg (fun s hs j e1 e2 => r.dif s hs j e1 e2)) (Nat.le_refl _) ?_) (by show bT + 1 < _; omega) _
  rw [hsz2]; exact hsz
 ·have h3 : g = j := by simpa [blk] using h1
  subst h3
  rcases hat with e | e
  ·exact r.dif s hs g e.symm h2
  ·obtain ⟨x, hx⟩ := mem_ins r.ins hs
   have := hx.2 g (by rw [ownBlock_slice]; exact h2)
   omega
 ·have h3 : g = j := by simpa [blk] using e
  subst h3
  rcases hat with e | e
  ·exact r.kL g hj e.symm
  ·have := (k.ks g hj).1; omega
theorem St.pop {A : Option Addr} {cap : Nat} {S : List (Option Addr × Nat)} {g cL : Nat} {d : Dm} (k : St K bN bT lim h q Ts (M ++ [d]) W) (r : Rw K bT h Ts (M ++ [d]) W A cap S (some ⟨g, 0, none⟩) cL) :
  St K bN bT lim h q Ts M (W.setCell ⟨bT + 1, 0, none⟩ (.slice (some ⟨g, 0, none⟩) M.length cL)) ∧ Kp K W (W.setCell ⟨bT + 1, 0, none⟩ (.slice (some ⟨g, 0, none⟩) M.length cL)) := by
 have hg0 : W.grownBy W none := ⟨rfl, rfl, rfl, Nat.le_refl _, fun _ _ _ => rfl⟩
 obtain ⟨a1, a2, a3, a4, a5, a6⟩ := k.grow_var (row := none) (fun g e => by cases e) (fun j hj e => by cases e) hg0 (bT + 1) (.inr rfl) (.slice (some ⟨g, 0, none⟩) M.length cL)
 have hsz2 : (W.setCell ⟨bT + 1, 0, none⟩ (.slice (some ⟨g, 0, none⟩) M.length cL)).heap.size = W.heap.size := by show (W.heap.modify _ _).size = _; rw [Array.size_modify]
 have hoL := r.oL
 rw [List.length_append, List.length_singleton, rowM_snoc] at hoL
 have hp := ownsRow_pop (rowM_length M) hoL
 refine ⟨⟨a1, k.kt, a2.trans k.kn, a4.trans k.kh, a5.trans k.ke, k.km.same a3, k.hn, fun j hj => ⟨by rw [hsz2]; exact (k.ks j hj).1, (k.ks j hj).2⟩, A, cap, S, some ⟨g, 0, none⟩, cL, ?_⟩, a6⟩
 refine ⟨?_, one_setCell r.vL, ownsRow_setCell_below r.oT (by show bT + 1 < _; omega) _, ownsRow_setCell_below hp (by show bT + 1 < _; omega) _, ?_, r.dif, r.kA, r.kL⟩
 ·rw [Below.heap_setCell _ _ _ _ (by show bT ≠ bT + 1; omega)]; exact r.vT
 ·rw [hsz2]; exact ins_set r.ins (by show bT + 1 < _; omega) _
theorem St.add {W1 : World} {A : Option Addr} {cap : Nat} {S : List (Option Addr × Nat)} {AL : Option Addr} {cL : Nat} (k : St K bN bT lim h q Ts M W) (r : Rw K bT h Ts M W A cap S AL cL) {x : List Dm} {A' : Option Addr} {c' g capT : Nat}
  (hx : RowIn W (bT + 5) W.heap.size 63 3 (.slice A' h c') h (rowM x)) (hd1 : Dif AL A') (hd2 : ∀ s ∈ S, Dif s.1 A')
  (hg : W.grownBy W1 (blk A)) (hat : some g = blk A ∨ g = W.heap.size) (ho : W1.ownsRow (bT + 5) TL 1 (.slice (some ⟨g, 0, none⟩) (Ts.length + 1) capT) (Ts.length + 1) (outs h S ++ [.slice A' h c'])) :
  St K bN bT lim h q (Ts ++ [x]) M (W1.setCell ⟨bT, 0, none⟩ (.slice (some ⟨g, 0, none⟩) (Ts.length + 1) capT)) ∧ Kp K W (W1.setCell ⟨bT, 0, none⟩ (.slice (some ⟨g, 0, none⟩) (Ts.length + 1) capT)) := by
 have hlow : ∀ g, blk A = some g → bT + 5 ≤ g := fun g e => (row_from r.oT e).1
 obtain ⟨a1, a2, a3, a4, a5, a6⟩ := k.grow_var hlow (fun j hj => r.kA j hj) hg bT (.inl rfl) (.slice (some ⟨g, 0, none⟩) (Ts.length + 1) capT)
 have hsz := hg.size
 have hsz2 : (W1.setCell ⟨bT, 0, none⟩ (.slice (some ⟨g, 0, none⟩) (Ts.length + 1) capT)).heap.size = W1.heap.size := by show (W1.heap.modify _ _).size = _; rw [Array.size_modify]
 have hv1 : W1.heap[bT]? = some (.cells #[.slice A Ts.length cap] TLs) := (hg.block _ (lt_of_block r.vT) (fun e => by have := hlow _ e.symm; omega)).trans r.vT
 have hLn : (Value.slice AL M.length cL).ownBlock = none ∨ (Value.slice AL M.length cL).ownBlock ≠ blk A := by
  rw [ownBlock_slice]
  cases hA : blk AL with
  | none => exact .inl rfl
  | some j => exact .inr (fun e => dif_types r.oL r.oT (by decide) j hA e.symm)
 have hI : Ins W (bT + 5) W.heap.size h (Ts ++ [x]) (S ++ [(A', c')]) := by
  refine ⟨by rw [List.length_append, List.length_append, r.ins.1]; rfl, fun i s y hs hy => ?_, ?_⟩
  ·by_cases hi' : i < S.length
   ·rw [List.getElem?_append_left hi'] at hs
    rw [List.getElem?_append_left (by rw [← r.ins.1]; exact hi')] at hy
    exact r.ins.2.1 i s y hs hy
   ·rw [List.getElem?_append_right (by omega)] at hs
    rw [List.getElem?_append_right (by rw [← r.ins.1]; omega), ← r.ins.1] at hy
    cases hi2 : i - S.length with
    | zero =>
     rw [hi2] at hs hy
     simp at hs hy
     subst hs; subst hy
     exact hx
    | succ m => rw [hi2] at hs; simp at hs
  ·rw [List.pairwise_append]
   refine ⟨r.ins.2.2, by simp, fun s hs t ht => ?_⟩
   rw [List.mem_singleton] at ht
   subst ht
   exact hd2 s hs
 have hout : ∀ s ∈ S ++ [(A', c')], ∀ j, blk A = some j → blk s.1 ≠ some j := fun s hs j e1 e2 => by
  obtain ⟨y, hy⟩ := mem_ins hI hs
  exact dif_types r.oT hy.1 (by decide) j e1 e2
 refine ⟨⟨a1, k.kt, a2.trans k.kn, a4.trans k.kh, a5.trans k.ke, k.km.same a3, k.hn, fun j hj => ⟨by have := (k.ks j hj).1; omega, (k.ks j hj).2⟩, some ⟨g, 0, none⟩, capT, S ++ [(A', c')], AL, cL, ?_⟩, a6⟩
 refine ⟨?_, ?_, ?_, ?_, ?_, fun s hs => ?_, fun j hj e => ?_, r.kL⟩
 ·rw [List.length_append, List.length_singleton]; exact one_setCell hv1
 ·rw [Below.heap_setCell _ _ _ _ (by show bT + 1 ≠ bT; omega)]
  exact (hg.block _ (lt_of_block r.vL) (fun e => by have := hlow _ e.symm; omega)).trans r.vL
 ·have e : outs h (S ++ [(A', c')]) = outs h S ++ [.slice A' h c'] := by unfold outs; rw [List.map_append]; rfl
  rw [e, List.length_append, List.length_singleton]
  exact ownsRow_setCell_below ho (by show bT < _; omega) _
 ·exact ownsRow_setCell_below (r.oL.kept hg hLn) (by show bT < _; omega) _
 ·refine ins_set (Ins.wide (ins_grown hI hg hout) (Nat.le_refl _) ?_) (by show bT < _; omega) _
  rw [hsz2]; exact hsz
 ·rcases List.mem_append.1 hs with hs | hs
  ·exact r.dif s hs
  ·rw [List.mem_singleton] at hs
   subst hs; exact hd1
 ·have h3 : g = j := by simpa [blk] using e
  subst h3
  rcases hat with e | e
  ·exact r.kA g hj e.symm
  ·have := (k.ks g hj).1; omega
theorem St.note (k : St K bN bT lim h q Ts M W) {q' : Nat} (hg : W.grownBy W' (some (bT + 2))) (hm : MapOk W' (bT + 2) q') : St K bN bT lim h q' Ts M W' ∧ Kp K W W' := by
 obtain ⟨A, cap, S, AL, cL, r⟩ := k.rows
 have hn := k.hn
 have one : ∀ j, j < W.heap.size → j ≠ bT + 2 → W'.heap[j]? = W.heap[j]? := fun j h1 h2 => hg.block j h1 (fun e => by injection e with e; exact h2 e)
 have kks : ∀ j, K j → W'.heap[j]? = W.heap[j]? := fun j hj => one j (k.ks j hj).1 (k.ks j hj).2.2.2
 have far : ∀ (B : Option Addr) (n c : Nat), (∀ g, blk B = some g → bT + 5 ≤ g) → (Value.slice B n c).ownBlock = none ∨ (Value.slice B n c).ownBlock ≠ some (bT + 2) := fun B n c h => by
  rw [ownBlock_slice]
  cases hB : blk B with
  | none => exact .inl rfl
  | some g => exact .inr (fun e => by injection e with e; have := h g hB; omega)
 refine ⟨⟨k.tab.same (kks _ k.kt), k.kt, (one _ (lt_of_block k.kn) (by omega)).trans k.kn, (one _ (lt_of_block k.kh) (by omega)).trans k.kh, (one _ (lt_of_block k.ke) (by omega)).trans k.ke, hm, k.hn, fun j hj => ⟨Nat.lt_of_lt_of_le (k.ks j hj).1 hg.size, (k.ks j hj).2⟩, A, cap, S, AL, cL, ?_⟩, ⟨hg.os, hg.tape, hg.output, hg.size, kks⟩⟩
 refine ⟨(one _ (lt_of_block r.vT) (by omega)).trans r.vT, (one _ (lt_of_block r.vL) (by omega)).trans r.vL, r.oT.kept hg (far _ _ _ (fun g e => (row_from r.oT e).1)), r.oL.kept hg (far _ _ _ (fun g e => (row_from r.oL e).1)), (ins_grown r.ins hg (fun s hs g e1 e2 => ?_)).wide (Nat.le_refl _) hg.size, r.dif, r.kA, r.kL⟩
 injection e1 with e1
 obtain ⟨x, hx⟩ := mem_ins r.ins hs
 have := (hx.1.lt g (by rw [ownBlock_slice]; exact e2)).1
 omega
end
end Go.Proofs.YtmajllgfmclcoaaGreatDoor.Ext
