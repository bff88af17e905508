/- ExS, ExW, ExP, ExL, ExA in one text. -/
import Derived.Test.YtmaghekcpopepaaDoorMgUnc
import Derived.Test.YtmaghekcpopepaaDoorDss
import Derived.Maps.OwnOps
import Derived.Maps.OwnSet
import Derived.Maps.Views
import Derived.WalkSmall
import Derived.OneCell
import Derived.Deep.RegionHeld3
import Derived.Deep.DeepMust
import Derived.Test.YtmaghekcpopepaaDoorDom
import Derived.Test.YtmaghekcpopepaaDoorMgCls
import Derived.Laws.EntriesVeiled

/- The closure that extends a list of dominoes: its variables in memory, the lists so far, the sets that are known to have no tiling. -/
namespace Go.Proofs.YtmaghekcpopepaaDoor.Ext
set_option linter.unusedVariables false
set_option linter.unusedSimpArgs false
set_option maxRecDepth 100000
open Go.RowKit Go.Proofs.YtmaghekcpopepaaDoor.Base Go.Proofs.YtmaghekcpopepaaDoor.Pure Go.Proofs.YtmaghekcpopepaaDoor.Cell Go.Proofs.YtmaghekcpopepaaDoor.Cels Go.Proofs.YtmaghekcpopepaaDoor.Dom Go.Proofs.YtmaghekcpopepaaDoor.Dms Go.Proofs.YtmaghekcpopepaaDoor.Til Go.Proofs.YtmaghekcpopepaaDoor.Dss Go.Proofs.YtmaghekcpopepaaDoor.Lis Go.Proofs.YtmaghekcpopepaaDoor.Sets Go.Joins
open Go.Proofs.YtmaghekcpopepaaDoor.Reg hiding Yes add_none
open Go.Maps (Keyed)
open Go.ChangeMaps Go.MapKept

theorem uk : Tryd.prog.underlying 86 = some (.int .u64) := by kernel_rfl
theorem ub : Tryd.prog.underlying 4 = some .bool := by kernel_rfl
theorem um : Tryd.prog.underlying 83 = some (.map 86 4) := by kernel_rfl
theorem law : Keyed Tryd.prog 86 := Maps.int_keyed uk
theorem zeroB (w : World) : (zeroValue 4).run Tryd.prog w = .ok (.bool false) w := by kernel_rfl
noncomputable abbrev RE : Value → Option (DataW Unit × List MemPlace) := plainElem (H := Unit) Tryd.prog 4
theorem wfU {x : Nat} (h : x < 18446744073709551616) : (Lit.int .u64 (x : Int)).wf = true := by
  have h1 : IntKind.u64.min = 0 := by decide +kernel
  have h2 : IntKind.u64.max = 18446744073709551615 := by decide +kernel
  unfold Lit.wf
  simp [h1, h2]
  omega
theorem keyU {x : Nat} (h : x < 18446744073709551616) : keyOf Tryd.prog 86 (.int .u64 (x : Int)) = some (.int .u64 (x : Int)) := Maps.keyOf_int_mk uk (wfU h)
/-- a map of sets: true stands only at a set without tilings. -/
def MapOk (W : World) (b q : Nat) : Prop := ∃ n D, n ≤ q ∧ W.ownsMap Tryd.prog 86 RE b n D ∧ ∀ x : Nat, x < 18446744073709551616 → D.atKey (.int .u64 (x : Int)) (.lit (.bool false)) = .lit (.bool true) → LsG (bt x) = []
theorem elem_bool {v : Value} {z : DataW Unit × List MemPlace} (h : RE v = some z) : ∃ r, v = .bool r ∧ z.1 = .lit (.bool r) := by
  unfold RE plainElem at h
  simp only [ub] at h
  cases v <;> simp at h
  subst h
  exact ⟨_, rfl, rfl⟩
theorem MapOk.look {W : World} {b q x : Nat} (h : MapOk W b q) (hx : x < 18446744073709551616) : ∃ r, (Instr.lookup 83 (.map (some b)) (.int .u64 (x : Int)) false).run Tryd.prog W = .ok (.bool r) W ∧ (r = true → LsG (bt x) = []) := by
  obtain ⟨n, D, hn, ho, hd⟩ := h
  obtain ⟨v, ps, hrun, hv⟩ := ho.lookup law um (zeroB W) (plainElem_bool (H := Unit) ub false) (keyU hx)
  obtain ⟨r, rfl, hr⟩ := elem_bool hv
  refine ⟨r, hrun, fun e => hd x hx ?_⟩
  simp only at hr
  rw [hr, e]
theorem MapOk.same {W W' : World} {b q : Nat} (h : MapOk W b q) (hb : W'.heap[b]? = W.heap[b]?) : MapOk W' b q := by
  obtain ⟨n, D, hn, ⟨es, clock, h1, h2⟩, hd⟩ := h
  exact ⟨n, D, hn, ⟨es, clock, hb.trans h1, h2⟩, hd⟩
theorem MapOk.lt {W : World} {b q : Nat} (h : MapOk W b q) : b < W.heap.size := by
  obtain ⟨n, D, hn, ho, hd⟩ := h
  exact ho.lt
theorem MapOk.mono {W : World} {b q q' : Nat} (h : MapOk W b q) (hq : q ≤ q') : MapOk W b q' := by
  obtain ⟨n, D, hn, ho, hd⟩ := h
  exact ⟨n, D, by omega, ho, hd⟩
theorem MapOk.new (W : World) : MapOk (W.alloc (.map #[] 0)) W.heap.size 0 := ⟨0, .map [], Nat.le_refl _, World.ownsMap_made W _ _ _, fun x _ h => by cases h⟩
/-- an entry is laid. -/
theorem MapOk.put {W W' : World} {b q n x : Nat} {D : DataW Unit} {r : Bool} (hn : n ≤ q) (ho : W.ownsMap Tryd.prog 86 RE b n D) (hd : ∀ x : Nat, x < 18446744073709551616 → D.atKey (.int .u64 (x : Int)) (.lit (.bool false)) = .lit (.bool true) → LsG (bt x) = [])
    (hx : x < 18446744073709551616) (ho' : W'.ownsMap Tryd.prog 86 RE b (n + 1) (D.put (.int .u64 (x : Int)) (.lit (.bool r)))) (hr : r = true → LsG (bt x) = []) : MapOk W' b (q + 1) := by
  refine ⟨n + 1, _, by omega, ho', fun y hy h => ?_⟩
  by_cases e : y = x
  · subst e
    rw [Maps.atKey_put_same ho.isMap (law.key (keyU hy))] at h
    injection h with h; injection h with h
    exact hr h
  · rw [Maps.atKey_put_other (fun q => e (by injection q with _ q; exact Int.ofNat.inj q))] at h
    exact hd y hy h

/-- what a call keeps: the blocks of K. -/
structure Kp (K : Nat → Prop) (W W' : World) : Prop where
  os : W'.os = W.os
  tape : W'.tape = W.tape
  output : W'.output = W.output
  size : W.heap.size ≤ W'.heap.size
  block : ∀ j, K j → W'.heap[j]? = W.heap[j]?
theorem Kp.refl (K : Nat → Prop) (W : World) : Kp K W W := ⟨rfl, rfl, rfl, Nat.le_refl _, fun _ _ => rfl⟩
theorem Kp.trans {K : Nat → Prop} {a b c : World} (h : Kp K a b) (k : Kp K b c) : Kp K a c :=
  ⟨k.os.trans h.os, k.tape.trans h.tape, k.output.trans h.output, Nat.le_trans h.size k.size, fun i hi => (k.block i hi).trans (h.block i hi)⟩
theorem Kp.less {K K' : Nat → Prop} {a b : World} (h : Kp K a b) (hk : ∀ j, K' j → K j) : Kp K' a b := ⟨h.os, h.tape, h.output, h.size, fun i hi => h.block i (hk i hi)⟩
theorem Kp.drew {K : Nat → Prop} {a b : World} (h : Kp K a b) : Kp K a b.drew := ⟨h.os, h.tape, h.output, h.size, h.block⟩
theorem Kp.of {K : Nat → Prop} {a b : World} (h : Below a.heap.size a b) (hk : ∀ j, K j → j < a.heap.size) : Kp K a b := ⟨h.os, h.tape, h.output, h.size, fun i hi => h.block i (hk i hi)⟩
theorem Kp.below {K : Nat → Prop} {a b : World} {B : Nat} (h : Kp K a b) (hk : ∀ j, j < B → K j) : Below B a b := ⟨h.os, h.tape, h.output, h.size, fun i hi => h.block i (hk i hi)⟩

theorem mem_ins {W : World} {lo hi h : Nat} {L : List (List Dm)} {S : List (Option Addr × Nat)} (k : Ins W lo hi h L S) {s : Option Addr × Nat} (hs : s ∈ S) : ∃ x, RowIn W lo hi 37 3 (.slice s.1 h s.2) h (rowM x) := by
  obtain ⟨i, hi1, e⟩ := List.getElem_of_mem hs
  exact ⟨_, k.2.1 i s _ (by rw [List.getElem?_eq_getElem hi1, e]) (List.getElem?_eq_getElem (by rw [← k.1]; exact hi1))⟩
theorem ins_grown {W W' : World} {lo hi h : Nat} {L : List (List Dm)} {S : List (Option Addr × Nat)} {row : Option Nat} (k : Ins W lo hi h L S) (hg : W.grownBy W' row) (hd : ∀ s ∈ S, ∀ g, row = some g → blk s.1 ≠ some g) : Ins W' lo hi h L S :=
  ⟨k.1, fun i s x hs hx => by
    have r := k.2.1 i s x hs hx
    refine ⟨r.1.kept hg ?_, r.2⟩
    rw [ownBlock_slice]
    cases hb : blk s.1 with
    | none => exact .inl rfl
    | some g => exact .inr (fun e => hd s (List.mem_of_getElem? hs) g e.symm hb), k.2.2⟩
theorem ins_set {W : World} {lo hi h : Nat} {L : List (List Dm)} {S : List (Option Addr × Nat)} (k : Ins W lo hi h L S) {a : Addr} (ha : a.block < lo) (u : Value) : Ins (W.setCell a u) lo hi h L S :=
  ⟨k.1, fun i s x hs hx => ⟨ownsRow_setCell_below (k.2.1 i s x hs hx).1 ha u, (k.2.1 i s x hs hx).2⟩, k.2.2⟩

/-- what the closure has caught. -/
def caps (bN bT : Nat) : Array Value := #[.pointer (some ⟨bT, 0, none⟩), .pointer (some ⟨bN, 0, none⟩), .pointer (some ⟨bT + 3, 0, none⟩), .pointer (some ⟨bT + 1, 0, none⟩), .pointer (some ⟨bT + 4, 0, none⟩)]
abbrev TLs : TypeId := 28
abbrev TL : TypeId := 30
/-- the lists so far and the list at hand, in memory. -/
structure Rw (K : Nat → Prop) (bT h : Nat) (Ts : List (List Dm)) (M : List Dm) (W : World) (A : Option Addr) (cap : Nat) (S : List (Option Addr × Nat)) (AL : Option Addr) (cL : Nat) : Prop where
  vT : W.heap[bT]? = some (.cells #[.slice A Ts.length cap] TLs)
  vL : W.heap[bT + 1]? = some (.cells #[.slice AL M.length cL] TL)
  oT : W.ownsRow (bT + 5) TL 1 (.slice A Ts.length cap) Ts.length (outs h S)
  oL : W.ownsRow (bT + 5) 37 3 (.slice AL M.length cL) M.length (rowM M)
  ins : Ins W (bT + 5) W.heap.size h Ts S
  dif : ∀ s ∈ S, Dif AL s.1
  kA : ∀ j, K j → blk A ≠ some j
  kL : ∀ j, K j → blk AL ≠ some j
structure St (K : Nat → Prop) (bN bT lim h q : Nat) (Ts : List (List Dm)) (M : List Dm) (W : World) : Prop where
  tab : Tab W
  kt : K 0
  kn : W.heap[bN]? = some (.cells #[.int .i64 (lim : Int)] 3)
  kh : W.heap[bT + 3]? = some (.cells #[.map (some (bT + 2))] 83)
  ke : W.heap[bT + 4]? = some (.cells #[.func (.func 58) #[] (caps bN bT)] 84)
  km : MapOk W (bT + 2) q
  hn : bN < bT
  ks : ∀ j, K j → j < W.heap.size ∧ j ≠ bT ∧ j ≠ bT + 1 ∧ j ≠ bT + 2
  rows : ∃ A cap S AL cL, Rw K bT h Ts M W A cap S AL cL
section
variable {K : Nat → Prop} {bN bT lim h q : Nat} {Ts : List (List Dm)} {M : List Dm} {W W' W2 : World}
theorem Rw.on {A : Option Addr} {cap : Nat} {S : List (Option Addr × Nat)} {AL : Option Addr} {cL : Nat} (k : Rw K bT h Ts M W A cap S AL cL) (hb : Below W.heap.size W W') : Rw K bT h Ts M W' A cap S AL cL :=
  ⟨(hb.block _ (lt_of_block k.vT)).trans k.vT, (hb.block _ (lt_of_block k.vL)).trans k.vL, Reg.own_below k.oT hb (Nat.le_refl _), Reg.own_below k.oL hb (Nat.le_refl _), (k.ins.on hb).wide (Nat.le_refl _) hb.size, k.dif, k.kA, k.kL⟩
theorem St.on (k : St K bN bT lim h q Ts M W) (hb : Below W.heap.size W W') : St K bN bT lim h q Ts M W' := by
  obtain ⟨A, cap, S, AL, cL, r⟩ := k.rows
  exact ⟨k.tab.on hb (Nat.le_refl _), k.kt, (hb.block _ (lt_of_block k.kn)).trans k.kn, (hb.block _ (lt_of_block k.kh)).trans k.kh, (hb.block _ (lt_of_block k.ke)).trans k.ke, k.km.same (hb.block _ k.km.lt), k.hn, fun j hj => ⟨Nat.lt_of_lt_of_le (k.ks j hj).1 hb.size, (k.ks j hj).2⟩, A, cap, S, AL, cL, r.on hb⟩
theorem St.drew (k : St K bN bT lim h q Ts M W) : St K bN bT lim h q Ts M W.drew := by
  obtain ⟨A, cap, S, AL, cL, r⟩ := k.rows
  exact ⟨k.tab, k.kt, k.kn, k.kh, k.ke, k.km.same rfl, k.hn, k.ks, A, cap, S, AL, cL, ⟨r.vT, r.vL, r.oT, r.oL, r.ins, r.dif, r.kA, r.kL⟩⟩
theorem St.kp (k : St K bN bT lim h q Ts M W) (hb : Below W.heap.size W W') : Kp K W W' := Kp.of hb (fun j hj => (k.ks j hj).1)
/-- more is kept: a block behind the variables that is none of the rows. -/
theorem St.keep (k : St K bN bT lim h q Ts M W) {P : Nat → Prop} (hP : ∀ j, P j → j < W.heap.size ∧ j ≠ bT ∧ j ≠ bT + 1 ∧ j ≠ bT + 2) (hr : ∀ A cap S AL cL, Rw K bT h Ts M W A cap S AL cL → ∀ j, P j → blk A ≠ some j ∧ blk AL ≠ some j) : St (fun j => K j ∨ P j) bN bT lim h q Ts M W := by
  obtain ⟨A, cap, S, AL, cL, r⟩ := k.rows
  refine ⟨k.tab, .inl k.kt, k.kn, k.kh, k.ke, k.km, k.hn, fun j hj => hj.elim (k.ks j) (hP j), A, cap, S, AL, cL, ⟨r.vT, r.vL, r.oT, r.oL, r.ins, r.dif, fun j hj => hj.elim (r.kA j) (fun p => (hr _ _ _ _ _ r j p).1), fun j hj => hj.elim (r.kL j) (fun p => (hr _ _ _ _ _ r j p).2)⟩⟩
theorem St.less (k : St K bN bT lim h q Ts M W) {P : Nat → Prop} (hP : ∀ j, P j → K j) (hg : P 0) : St P bN bT lim h q Ts M W := by
  obtain ⟨A, cap, S, AL, cL, r⟩ := k.rows
  exact ⟨k.tab, hg, k.kn, k.kh, k.ke, k.km, k.hn, fun j hj => k.ks j (hP j hj), A, cap, S, AL, cL, ⟨r.vT, r.vL, r.oT, r.oL, r.ins, r.dif, fun j hj => r.kA j (hP j hj), fun j hj => r.kL j (hP j hj)⟩⟩
/-- the blocks of rows lie behind the variables. -/
theorem row_from {e size n c : Nat} {A : Option Addr} {xs : List Value} (ho : W.ownsRow (bT + 5) e size (.slice A n c) n xs) {g : Nat} (hg : blk A = some g) : bT + 5 ≤ g ∧ g < W.heap.size := ho.lt g (by rw [ownBlock_slice]; exact hg)

theorem St.grow_var {W1 : World} {row : Option Nat} (k : St K bN bT lim h q Ts M W) (hrow : ∀ g, row = some g → bT + 5 ≤ g) (hk : ∀ j, K j → row ≠ some j) (hg : W.grownBy W1 row) (v : Nat) (hv : v = bT ∨ v = bT + 1) (u : Value) :
    Tab (W1.setCell ⟨v, 0, none⟩ u) ∧ (W1.setCell ⟨v, 0, none⟩ u).heap[bN]? = W.heap[bN]? ∧ (W1.setCell ⟨v, 0, none⟩ u).heap[bT + 2]? = W.heap[bT + 2]? ∧ (W1.setCell ⟨v, 0, none⟩ u).heap[bT + 3]? = W.heap[bT + 3]? ∧ (W1.setCell ⟨v, 0, none⟩ u).heap[bT + 4]? = W.heap[bT + 4]? ∧ Kp K W (W1.setCell ⟨v, 0, none⟩ u) := by
  have hn := k.hn
  have one : ∀ j, j < W.heap.size → row ≠ some j → j ≠ v → (W1.setCell ⟨v, 0, none⟩ u).heap[j]? = W.heap[j]? := fun j h1 h2 h3 =>
    (Below.heap_setCell W1 ⟨v, 0, none⟩ u j h3).trans (hg.block j h1 (fun e => h2 e.symm))
  have low : ∀ j, j < bT + 5 → row ≠ some j := fun j hj e => by have := hrow j e; omega
  have kks : ∀ j, K j → (W1.setCell ⟨v, 0, none⟩ u).heap[j]? = W.heap[j]? := fun j hj => by
    obtain ⟨a, b, c, d⟩ := k.ks j hj
    exact one j a (hk j hj) (by rcases hv with e | e <;> rw [e] <;> assumption)
  refine ⟨k.tab.same (kks _ k.kt), one bN (lt_of_block k.kn) (low _ (by omega)) (by omega), one (bT + 2) k.km.lt (low _ (by omega)) (by omega), one (bT + 3) (lt_of_block k.kh) (low _ (by omega)) (by omega), one (bT + 4) (lt_of_block k.ke) (low _ (by omega)) (by omega), hg.os, hg.tape, hg.output, ?_, kks⟩
  show _ ≤ (W1.heap.modify _ _).size
  rw [Array.size_modify]; exact hg.size
/-- a domino comes behind the list. -/
theorem St.push {W1 : World} {A : Option Addr} {cap : Nat} {S : List (Option Addr × Nat)} {AL : Option Addr} {cL : Nat} (k : St K bN bT lim h q Ts M W) (r : Rw K bT h Ts M W A cap S AL cL) {d : Dm} {g cL' : Nat}
    (hg : W.grownBy W1 (blk AL)) (hat : some g = blk AL ∨ g = W.heap.size) (ho : W1.ownsRow (bT + 5) 37 3 (.slice (some ⟨g, 0, none⟩) (M.length + 1) cL') (M.length + 1) (rowM M ++ [.int .i64 d.1, .int .i64 d.2.1, .bool d.2.2])) :
    St K bN bT lim h q Ts (M ++ [d]) (W1.setCell ⟨bT + 1, 0, none⟩ (.slice (some ⟨g, 0, none⟩) (M.length + 1) cL')) ∧ Kp K W (W1.setCell ⟨bT + 1, 0, none⟩ (.slice (some ⟨g, 0, none⟩) (M.length + 1) cL')) := by
  have hlow : ∀ g, blk AL = some g → bT + 5 ≤ g := fun g e => (row_from r.oL e).1
  obtain ⟨a1, a2, a3, a4, a5, a6⟩ := k.grow_var hlow (fun j hj => r.kL j hj) hg (bT + 1) (.inr rfl) (.slice (some ⟨g, 0, none⟩) (M.length + 1) cL')
  have hsz := hg.size
  have hsz2 : (W1.setCell ⟨bT + 1, 0, none⟩ (.slice (some ⟨g, 0, none⟩) (M.length + 1) cL')).heap.size = W1.heap.size := by show (W1.heap.modify _ _).size = _; rw [Array.size_modify]
  have hv1 : W1.heap[bT + 1]? = some (.cells #[.slice AL M.length cL] TL) := (hg.block _ (lt_of_block r.vL) (fun e => by have := hlow _ e.symm; omega)).trans r.vL
  have hTn : (Value.slice A Ts.length cap).ownBlock = none ∨ (Value.slice A Ts.length cap).ownBlock ≠ blk AL := by
    rw [ownBlock_slice]
    cases hA : blk A with
    | none => exact .inl rfl
    | some j => exact .inr (fun e => dif_types r.oT r.oL (by decide) j hA e.symm)
  refine ⟨⟨a1, k.kt, a2.trans k.kn, a4.trans k.kh, a5.trans k.ke, k.km.same a3, k.hn, fun j hj => ⟨by have := (k.ks j hj).1; omega, (k.ks j hj).2⟩, A, cap, S, some ⟨g, 0, none⟩, cL', ?_⟩, a6⟩
  refine ⟨?_, ?_, ?_, ?_, ?_, fun s hs j h1 h2 => ?_, r.kA, fun j hj e => ?_⟩
  · rw [Below.heap_setCell _ _ _ _ (by show bT ≠ bT + 1; omega)]
    exact (hg.block _ (lt_of_block r.vT) (fun e => by have := hlow _ e.symm; omega)).trans r.vT
  · rw [List.length_append, List.length_singleton]; exact one_setCell hv1
  · exact ownsRow_setCell_below (r.oT.kept hg hTn) (by show bT + 1 < _; omega) _
  · rw [rowM_snoc, List.length_append, List.length_singleton]
    exact ownsRow_setCell_below ho (by show bT + 1 < _; omega) _
  · refine ins_set (Ins.wide (ins_grown r.ins hg (fun s hs j e1 e2 => r.dif s hs j e1 e2)) (Nat.le_refl _) ?_) (by show bT + 1 < _; omega) _
    rw [hsz2]; exact hsz
  · have h3 : g = j := by simpa [blk] using h1
    subst h3
    rcases hat with e | e
    · exact r.dif s hs g e.symm h2
    · obtain ⟨x, hx⟩ := mem_ins r.ins hs
      have := hx.2 g (by rw [ownBlock_slice]; exact h2)
      omega
  · have h3 : g = j := by simpa [blk] using e
    subst h3
    rcases hat with e | e
    · exact r.kL g hj e.symm
    · have := (k.ks g hj).1; omega
/-- the last domino is taken from the list. -/
theorem St.pop {A : Option Addr} {cap : Nat} {S : List (Option Addr × Nat)} {g cL : Nat} {d : Dm} (k : St K bN bT lim h q Ts (M ++ [d]) W) (r : Rw K bT h Ts (M ++ [d]) W A cap S (some ⟨g, 0, none⟩) cL) :
    St K bN bT lim h q Ts M (W.setCell ⟨bT + 1, 0, none⟩ (.slice (some ⟨g, 0, none⟩) M.length cL)) ∧ Kp K W (W.setCell ⟨bT + 1, 0, none⟩ (.slice (some ⟨g, 0, none⟩) M.length cL)) := by
  have hg0 : W.grownBy W none := ⟨rfl, rfl, rfl, Nat.le_refl _, fun _ _ _ => rfl⟩
  obtain ⟨a1, a2, a3, a4, a5, a6⟩ := k.grow_var (row := none) (fun g e => by cases e) (fun j hj e => by cases e) hg0 (bT + 1) (.inr rfl) (.slice (some ⟨g, 0, none⟩) M.length cL)
  have hsz2 : (W.setCell ⟨bT + 1, 0, none⟩ (.slice (some ⟨g, 0, none⟩) M.length cL)).heap.size = W.heap.size := by show (W.heap.modify _ _).size = _; rw [Array.size_modify]
  have hoL := r.oL
  rw [List.length_append, List.length_singleton, rowM_snoc] at hoL
  have hp := ownsRow_pop (rowM_length M) hoL
  refine ⟨⟨a1, k.kt, a2.trans k.kn, a4.trans k.kh, a5.trans k.ke, k.km.same a3, k.hn, fun j hj => ⟨by rw [hsz2]; exact (k.ks j hj).1, (k.ks j hj).2⟩, A, cap, S, some ⟨g, 0, none⟩, cL, ?_⟩, a6⟩
  refine ⟨?_, one_setCell r.vL, ownsRow_setCell_below r.oT (by show bT + 1 < _; omega) _, ownsRow_setCell_below hp (by show bT + 1 < _; omega) _, ?_, r.dif, r.kA, r.kL⟩
  · rw [Below.heap_setCell _ _ _ _ (by show bT ≠ bT + 1; omega)]; exact r.vT
  · rw [hsz2]; exact ins_set r.ins (by show bT + 1 < _; omega) _
/-- a list comes behind the lists. -/
theorem St.add {W1 : World} {A : Option Addr} {cap : Nat} {S : List (Option Addr × Nat)} {AL : Option Addr} {cL : Nat} (k : St K bN bT lim h q Ts M W) (r : Rw K bT h Ts M W A cap S AL cL) {x : List Dm} {A' : Option Addr} {c' g capT : Nat}
    (hx : RowIn W (bT + 5) W.heap.size 37 3 (.slice A' h c') h (rowM x)) (hd1 : Dif AL A') (hd2 : ∀ s ∈ S, Dif s.1 A')
    (hg : W.grownBy W1 (blk A)) (hat : some g = blk A ∨ g = W.heap.size) (ho : W1.ownsRow (bT + 5) TL 1 (.slice (some ⟨g, 0, none⟩) (Ts.length + 1) capT) (Ts.length + 1) (outs h S ++ [.slice A' h c'])) :
    St K bN bT lim h q (Ts ++ [x]) M (W1.setCell ⟨bT, 0, none⟩ (.slice (some ⟨g, 0, none⟩) (Ts.length + 1) capT)) ∧ Kp K W (W1.setCell ⟨bT, 0, none⟩ (.slice (some ⟨g, 0, none⟩) (Ts.length + 1) capT)) := by
  have hlow : ∀ g, blk A = some g → bT + 5 ≤ g := fun g e => (row_from r.oT e).1
  obtain ⟨a1, a2, a3, a4, a5, a6⟩ := k.grow_var hlow (fun j hj => r.kA j hj) hg bT (.inl rfl) (.slice (some ⟨g, 0, none⟩) (Ts.length + 1) capT)
  have hsz := hg.size
  have hsz2 : (W1.setCell ⟨bT, 0, none⟩ (.slice (some ⟨g, 0, none⟩) (Ts.length + 1) capT)).heap.size = W1.heap.size := by show (W1.heap.modify _ _).size = _; rw [Array.size_modify]
  have hv1 : W1.heap[bT]? = some (.cells #[.slice A Ts.length cap] TLs) := (hg.block _ (lt_of_block r.vT) (fun e => by have := hlow _ e.symm; omega)).trans r.vT
  have hLn : (Value.slice AL M.length cL).ownBlock = none ∨ (Value.slice AL M.length cL).ownBlock ≠ blk A := by
    rw [ownBlock_slice]
    cases hA : blk AL with
    | none => exact .inl rfl
    | some j => exact .inr (fun e => dif_types r.oL r.oT (by decide) j hA e.symm)
  have hI : Ins W (bT + 5) W.heap.size h (Ts ++ [x]) (S ++ [(A', c')]) := by
    refine ⟨by rw [List.length_append, List.length_append, r.ins.1]; rfl, fun i s y hs hy => ?_, ?_⟩
    · by_cases hi' : i < S.length
      · rw [List.getElem?_append_left hi'] at hs
        rw [List.getElem?_append_left (by rw [← r.ins.1]; exact hi')] at hy
        exact r.ins.2.1 i s y hs hy
      · rw [List.getElem?_append_right (by omega)] at hs
        rw [List.getElem?_append_right (by rw [← r.ins.1]; omega), ← r.ins.1] at hy
        cases hi2 : i - S.length with
        | zero =>
          rw [hi2] at hs hy
          simp at hs hy
          subst hs; subst hy
          exact hx
        | succ m => rw [hi2] at hs; simp at hs
    · rw [List.pairwise_append]
      refine ⟨r.ins.2.2, by simp, fun s hs t ht => ?_⟩
      rw [List.mem_singleton] at ht
      subst ht
      exact hd2 s hs
  have hout : ∀ s ∈ S ++ [(A', c')], ∀ j, blk A = some j → blk s.1 ≠ some j := fun s hs j e1 e2 => by
    obtain ⟨y, hy⟩ := mem_ins hI hs
    exact dif_types r.oT hy.1 (by decide) j e1 e2
  refine ⟨⟨a1, k.kt, a2.trans k.kn, a4.trans k.kh, a5.trans k.ke, k.km.same a3, k.hn, fun j hj => ⟨by have := (k.ks j hj).1; omega, (k.ks j hj).2⟩, some ⟨g, 0, none⟩, capT, S ++ [(A', c')], AL, cL, ?_⟩, a6⟩
  refine ⟨?_, ?_, ?_, ?_, ?_, fun s hs => ?_, fun j hj e => ?_, r.kL⟩
  · rw [List.length_append, List.length_singleton]; exact one_setCell hv1
  · rw [Below.heap_setCell _ _ _ _ (by show bT + 1 ≠ bT; omega)]
    exact (hg.block _ (lt_of_block r.vL) (fun e => by have := hlow _ e.symm; omega)).trans r.vL
  · have e : outs h (S ++ [(A', c')]) = outs h S ++ [.slice A' h c'] := by unfold outs; rw [List.map_append]; rfl
    rw [e, List.length_append, List.length_singleton]
    exact ownsRow_setCell_below ho (by show bT < _; omega) _
  · exact ownsRow_setCell_below (r.oL.kept hg hLn) (by show bT < _; omega) _
  · refine ins_set (Ins.wide (ins_grown hI hg hout) (Nat.le_refl _) ?_) (by show bT < _; omega) _
    rw [hsz2]; exact hsz
  · rcases List.mem_append.1 hs with hs | hs
    · exact r.dif s hs
    · rw [List.mem_singleton] at hs
      subst hs; exact hd1
  · have h3 : g = j := by simpa [blk] using e
    subst h3
    rcases hat with e | e
    · exact r.kA g hj e.symm
    · have := (k.ks g hj).1; omega
/-- an entry is laid in the map. -/
theorem St.note (k : St K bN bT lim h q Ts M W) {q' : Nat} (hg : W.grownBy W' (some (bT + 2))) (hm : MapOk W' (bT + 2) q') : St K bN bT lim h q' Ts M W' ∧ Kp K W W' := by
  obtain ⟨A, cap, S, AL, cL, r⟩ := k.rows
  have hn := k.hn
  have one : ∀ j, j < W.heap.size → j ≠ bT + 2 → W'.heap[j]? = W.heap[j]? := fun j h1 h2 => hg.block j h1 (fun e => by injection e with e; exact h2 e)
  have kks : ∀ j, K j → W'.heap[j]? = W.heap[j]? := fun j hj => one j (k.ks j hj).1 (k.ks j hj).2.2.2
  have far : ∀ (B : Option Addr) (n c : Nat), (∀ g, blk B = some g → bT + 5 ≤ g) → (Value.slice B n c).ownBlock = none ∨ (Value.slice B n c).ownBlock ≠ some (bT + 2) := fun B n c h => by
    rw [ownBlock_slice]
    cases hB : blk B with
    | none => exact .inl rfl
    | some g => exact .inr (fun e => by injection e with e; have := h g hB; omega)
  refine ⟨⟨k.tab.same (kks _ k.kt), k.kt, (one _ (lt_of_block k.kn) (by omega)).trans k.kn, (one _ (lt_of_block k.kh) (by omega)).trans k.kh, (one _ (lt_of_block k.ke) (by omega)).trans k.ke, hm, k.hn, fun j hj => ⟨Nat.lt_of_lt_of_le (k.ks j hj).1 hg.size, (k.ks j hj).2⟩, A, cap, S, AL, cL, ?_⟩, ⟨hg.os, hg.tape, hg.output, hg.size, kks⟩⟩
  refine ⟨(one _ (lt_of_block r.vT) (by omega)).trans r.vT, (one _ (lt_of_block r.vL) (by omega)).trans r.vL, r.oT.kept hg (far _ _ _ (fun g e => (row_from r.oT e).1)), r.oL.kept hg (far _ _ _ (fun g e => (row_from r.oL e).1)), (ins_grown r.ins hg (fun s hs g e1 e2 => ?_)).wide (Nat.le_refl _) hg.size, r.dif, r.kA, r.kL⟩
  injection e1 with e1
  obtain ⟨x, hx⟩ := mem_ins r.ins hs
  have := (hx.1.lt g (by rw [ownBlock_slice]; exact e2)).1
  omega
end
end Go.Proofs.YtmaghekcpopepaaDoor.Ext

/- The closure that extends a list of dominoes: its walk. -/
namespace Go.Proofs.YtmaghekcpopepaaDoor.Ext
set_option linter.unusedVariables false
set_option linter.unusedSimpArgs false
set_option maxRecDepth 100000
open Go.RowKit Go.Proofs.YtmaghekcpopepaaDoor.Base Go.Proofs.YtmaghekcpopepaaDoor.Pure Go.Proofs.YtmaghekcpopepaaDoor.Cell Go.Proofs.YtmaghekcpopepaaDoor.Cels Go.Proofs.YtmaghekcpopepaaDoor.Dom Go.Proofs.YtmaghekcpopepaaDoor.Dms Go.Proofs.YtmaghekcpopepaaDoor.Til Go.Proofs.YtmaghekcpopepaaDoor.Grd Go.Proofs.YtmaghekcpopepaaDoor.Dss Go.Proofs.YtmaghekcpopepaaDoor.Lis Go.Proofs.YtmaghekcpopepaaDoor.Sets Go.Joins
open Go.Proofs.YtmaghekcpopepaaDoor.Cnt (gR tiles gR_in gR_out)
open Go.Proofs.YtmaghekcpopepaaDoor.Reg hiding Yes add_none

theorem dssInfo : (Tryd.prog.info? 30).map (fun i => (i.zero, i.size, i.bytes)) = some (some (.slice none 0 0), 1, 24) := by kernel_rfl
theorem atBit {t : Nat} (ht : t < 2) (w : World) : (Instr.index 89 (.agg #[.bool false, .bool true]) (.int .i64 (t : Int))).run Tryd.prog w = .ok (.bool (decide (t = 1))) w := by
  have h0 : (Instr.index 89 (.agg #[.bool false, .bool true]) (.int .i64 0)).run Tryd.prog w = .ok (.bool false) w := by kernel_rfl
  have h1 : (Instr.index 89 (.agg #[.bool false, .bool true]) (.int .i64 1)).run Tryd.prog w = .ok (.bool true) w := by kernel_rfl
  obtain rfl | rfl : t = 0 ∨ t = 1 := by omega
  · exact h0
  · exact h1
/-- how many calls there can be. -/
def U : Nat → Nat
  | 0 => 0
  | f + 1 => 2 * U f + 1
theorem U_mono {f : Nat} : ∀ {g : Nat}, f ≤ g → U f ≤ U g
  | 0, h => by have : f = 0 := by omega
               subst this; exact Nat.le_refl _
  | g + 1, h => by
    by_cases e : f = g + 1
    · subst e; exact Nat.le_refl _
    · have := U_mono (f := f) (g := g) (by omega)
      show U f ≤ 2 * U g + 1
      omega
/-- what the closure leaves. -/
def Xt (K : Nat → Prop) (bN bT lim h q : Nat) (Ts : List (List Dm)) (M : List Dm) (w : World) (e : Ending) (w' : World) : Prop := e = .returned (.tuple #[]) ∧ St K bN bT lim h q Ts M w' ∧ Kp K w w'
section
variable {K : Nat → Prop} {bN bT lim h q : Nat} {Ts : List (List Dm)} {M : List Dm} {W W' : World}
theorem St.cN (k : St K bN bT lim h q Ts M W) : W.cell? ⟨bN, 0, none⟩ = some (.int .i64 (lim : Int)) := cell_of_one k.kn
theorem St.cH (k : St K bN bT lim h q Ts M W) : W.cell? ⟨bT + 3, 0, none⟩ = some (.map (some (bT + 2))) := cell_of_one k.kh
theorem St.cE (k : St K bN bT lim h q Ts M W) : W.cell? ⟨bT + 4, 0, none⟩ = some (.func (.func 58) #[] (caps bN bT)) := cell_of_one k.ke
theorem St.more (k : St K bN bT lim h q Ts M W) {q' : Nat} (hq : q ≤ q') : St K bN bT lim h q' Ts M W := ⟨k.tab, k.kt, k.kn, k.kh, k.ke, k.km.mono hq, k.hn, k.ks, k.rows⟩
variable {A : Option Addr} {cap : Nat} {S : List (Option Addr × Nat)} {AL : Option Addr} {cL : Nat}
theorem Rw.cT (r : Rw K bT h Ts M W A cap S AL cL) : W.cell? ⟨bT, 0, none⟩ = some (.slice A Ts.length cap) := cell_of_one r.vT
theorem Rw.fT (r : Rw K bT h Ts M W A cap S AL cL) : W.frozen? ⟨bT, 0, none⟩ = false := free_of_one r.vT
theorem Rw.cL' (r : Rw K bT h Ts M W A cap S AL cL) : W.cell? ⟨bT + 1, 0, none⟩ = some (.slice AL M.length cL) := cell_of_one r.vL
theorem Rw.fL (r : Rw K bT h Ts M W A cap S AL cL) : W.frozen? ⟨bT + 1, 0, none⟩ = false := free_of_one r.vL
theorem Rw.drew (r : Rw K bT h Ts M W A cap S AL cL) : Rw K bT h Ts M W.drew A cap S AL cL := ⟨r.vT, r.vL, r.oT, r.oL, r.ins, r.dif, r.kA, r.kL⟩
/-- a block behind all is kept, too. -/
theorem St.box (k : St K bN bT lim h q Ts M W) (o : Obj) : St (fun j => K j ∨ j = W.heap.size) bN bT lim h q Ts M (W.alloc o) := by
  obtain ⟨A, cap, S, AL, cL, r⟩ := k.rows
  have k2 := k.on (below_alloc1 W o)
  have r2 := r.on (below_alloc1 W o)
  have hsz : (W.alloc o).heap.size = W.heap.size + 1 := by simp
  have b1 := lt_of_block r.vT
  have b2 := lt_of_block r.vL
  have b3 := k.km.lt
  refine ⟨k2.tab, .inl k2.kt, k2.kn, k2.kh, k2.ke, k2.km, k2.hn, fun j hj => hj.elim (k2.ks j) (fun e => by subst e; exact ⟨by omega, by omega, by omega, by omega⟩), A, cap, S, AL, cL, ⟨r2.vT, r2.vL, r2.oT, r2.oL, r2.ins, r2.dif, fun j hj => hj.elim (r2.kA j) (fun e he => ?_), fun j hj => hj.elim (r2.kL j) (fun e he => ?_)⟩⟩
  · subst e; have := (row_from r.oT he).2; omega
  · subst e; have := (row_from r.oL he).2; omega
theorem far_cell {b : Nat} {v : Value} {a : Addr} (h : W.cell? ⟨b, 0, none⟩ = some v) (hb : b ≠ a.block) (u : Value) : (W.setCell a u).cell? ⟨b, 0, none⟩ = some v := (World.cell?_of_block (a := ⟨b, 0, none⟩) (Below.heap_setCell _ _ _ _ hb)).trans h
theorem row_low {e size n c : Nat} {B : Option Addr} {xs : List Value} (ho : W.ownsRow (bT + 5) e size (.slice B n c) n xs) : ∀ g, (Value.slice B n c).ownBlock = some g → bT + 5 ≤ g := fun g e => (ho.lt g e).1
/-- the variables while a row grows. -/
theorem Rw.grown {row : Option Nat} (r : Rw K bT h Ts M W A cap S AL cL) (hlow : ∀ g, row = some g → bT + 5 ≤ g) (hg : W.grownBy W' row) : W'.cell? ⟨bT, 0, none⟩ = some (.slice A Ts.length cap) ∧ W'.frozen? ⟨bT, 0, none⟩ = false ∧ W'.cell? ⟨bT + 1, 0, none⟩ = some (.slice AL M.length cL) := by
  have h1 : W'.heap[bT]? = W.heap[bT]? := hg.block _ (lt_of_block r.vT) (fun e => by have := hlow _ e.symm; omega)
  have h2 : W'.heap[bT + 1]? = W.heap[bT + 1]? := hg.block _ (lt_of_block r.vL) (fun e => by have := hlow _ e.symm; omega)
  exact ⟨cell_of_one (h1.trans r.vT), free_of_one (h1.trans r.vT), cell_of_one (h2.trans r.vL)⟩
theorem leaf_end (k : St K bN bT lim h q Ts M W) (r : Rw K bT h Ts M W A cap S AL cL) (hMh : M.length = h) {w2 W1 : World} {A2 : Option Addr} {cap2 g6 c6 : Nat} (hb2 : Below W.drew.heap.size W.drew w2)
    (hown2 : w2.ownsRow W.drew.heap.size 37 3 (.slice A2 M.length cap2) M.length (rowM M)) (hg : (w2.alloc (.cells #[.slice A2 M.length cap2] TL)).grownBy W1 (Value.slice A Ts.length cap).ownBlock)
    (hat : (Value.slice A Ts.length cap).ownBlock = some g6 ∨ g6 = (w2.alloc (.cells #[.slice A2 M.length cap2] TL)).heap.size)
    (ho : W1.ownsRow (bT + 5) TL 1 (.slice (some ⟨g6, 0, none⟩) (Ts.length + 1) c6) (Ts.length + 1) (outs h S ++ [.slice A2 M.length cap2])) :
    Xt K bN bT lim h q (Ts ++ [M]) M W (.returned (.tuple #[])) (W1.setCell ⟨bT, 0, none⟩ (.slice (some ⟨g6, 0, none⟩) (Ts.length + 1) c6)) := by
  subst hMh
  have h5 : bT + 5 ≤ W.heap.size := by have := lt_of_block k.ke; omega
  have hb3 : Below W.drew.heap.size W.drew (w2.alloc (.cells #[.slice A2 M.length cap2] TL)) := hb2.alloc hb2.size _
  have k3 := k.drew.on hb3
  have r3 := r.drew.on hb3
  have hs : W.drew.heap.size = W.heap.size := rfl
  have hown3 := hown2.alloc (.cells #[.slice A2 M.length cap2] TL)
  rw [ownBlock_slice] at hg hat
  have hx : RowIn (w2.alloc (.cells #[.slice A2 M.length cap2] TL)) (bT + 5) (w2.alloc (.cells #[.slice A2 M.length cap2] TL)).heap.size 37 3 (.slice A2 M.length cap2) M.length (rowM M) := rowIn_new (Reg.own_base hown3 (by rw [hs]; exact h5))
  have hlo : ∀ g, blk A2 = some g → W.heap.size ≤ g := fun g e => (hown3.lt g (by rw [ownBlock_slice]; exact e)).1
  obtain ⟨k4, p4⟩ := k3.add r3 hx (fun g e1 e2 => by have := (row_from r.oL e1).2; have := hlo g e2; omega) (fun s hs' g e1 e2 => by
    obtain ⟨x, hx'⟩ := mem_ins r.ins hs'
    have := hx'.2 g (by rw [ownBlock_slice]; exact e1)
    have := hlo g e2
    omega) hg (hat.imp (fun e => e.symm) id) ho
  exact ⟨rfl, k4, ((Kp.refl K W).drew.trans (k.drew.kp hb3)).trans p4⟩
end

/-- the closure's contract at a number of dominoes. -/
def ExtC (xs : List Int) (bN bT lim h f : Nat) : Prop := ∀ (W : World) (K : Nat → Prop) (q x : Nat) (Ts : List (List Dm)) (M : List Dm) (k : Nat), St K bN bT lim h q Ts M W → x < 18446744073709551616 → bt x = gM xs M → Beg xs k M → k ≤ 64 → (∀ i, i < k → gM xs M i = false) → (unc M (cellsR xs)).length < 2 * f → Ts.length ≤ lim → q + U f ≤ 1099511627776 →
    Calls Tryd.prog 58 #[.int .u64 (x : Int), .pointer (some ⟨bT, 0, none⟩), .pointer (some ⟨bN, 0, none⟩), .pointer (some ⟨bT + 3, 0, none⟩), .pointer (some ⟨bT + 1, 0, none⟩), .pointer (some ⟨bT + 4, 0, none⟩)] W (Xt K bN bT lim h (q + U f) ((Ts ++ cont xs M).take lim) M W)
/-- where there are cells left. -/
def ExtL (xs : List Int) (bN bT lim h f : Nat) : Prop := ∀ (W : World) (K : Nat → Prop) (q x : Nat) (Ts : List (List Dm)) (M : List Dm) (k : Nat), St K bN bT lim h q Ts M W → x < 18446744073709551616 → bt x = gM xs M → Beg xs k M → k ≤ 64 → (∀ i, i < k → gM xs M i = false) → (unc M (cellsR xs)).length < 2 * (f + 1) → Ts.length < lim → q + U (f + 1) ≤ 1099511627776 → x ≠ 0 →
    (Instr.lookup 83 (.map (some (bT + 2))) (.int .u64 (x : Int)) false).run Tryd.prog W = .ok (.bool false) W →
    Calls Tryd.prog 58 #[.int .u64 (x : Int), .pointer (some ⟨bT, 0, none⟩), .pointer (some ⟨bN, 0, none⟩), .pointer (some ⟨bT + 3, 0, none⟩), .pointer (some ⟨bT + 1, 0, none⟩), .pointer (some ⟨bT + 4, 0, none⟩)] W (Xt K bN bT lim h (q + U (f + 1)) ((Ts ++ cont xs M).take lim) M W)

set_option maxHeartbeats 4000000 in
theorem ext_leaf (xs : List Int) (ho : okR xs) (bN bT lim h : Nat) (hh : h = (cellsR xs).length / 2) (hlim : lim ≤ 1000) (f : Nat) (HLoop : Hid (ExtL xs bN bT lim h f)) : ExtC xs bN bT lim h (f + 1) := by
  intro W K q x Ts M k hst hx hbt hbg hk64 hk0 hf hTl hq
  have HS := Lib.hid hst
  have hM32 : M.length ≤ 32 := by
    have := part_length (part_yes (okRB_of ho) hbg.1)
    omega
  by_cases hl : Ts.length = lim
  · have HE := Lib.hid (show (Ts ++ cont xs M).take lim = Ts by rw [← hl]; simp)
    rw [HE.out]
    have HP := Lib.hid (show Xt K bN bT lim h (q + U (f + 1)) Ts M W (.returned (.tuple #[])) W from ⟨rfl, hst.more (Nat.le_add_right _ _), Kp.refl _ _⟩)
    obtain ⟨A, cap, S, AL, cL, r⟩ := hst.rows
    have c0 := r.cT
    have c1 := hst.cN
    have he : ((Ts.length : Int) == (lim : Int)) = true := by simp [hl]
    clear hst hbt hbg hk0 hf hTl hq HLoop hk64 HE r hl hh hx
    go_enter Tryd.func58, Tryd.ntmps58
    go_wp2
    exact bodyPost_ret (v := .tuple #[]) (by simp [results, Tryd.results58, go_sem]) rfl HP.out
  · have hlt : Ts.length < lim := by omega
    obtain ⟨hr, hrun, hr0⟩ := hst.km.look hx
    have HCut := Lib.hid (show LsG (bt x) = [] → cont xs M = [] from fun e => by unfold cont; rw [← hbt, e]; rfl)
    cases hr with
    | true =>
      have HE := Lib.hid (show (Ts ++ cont xs M).take lim = Ts by rw [HCut.out (hr0 rfl), List.append_nil, List.take_of_length_le hTl])
      rw [HE.out]
      have HP := Lib.hid (show Xt K bN bT lim h (q + U (f + 1)) Ts M W (.returned (.tuple #[])) W from ⟨rfl, hst.more (Nat.le_add_right _ _), Kp.refl _ _⟩)
      obtain ⟨A, cap, S, AL, cL, r⟩ := hst.rows
      have c0 := r.cT
      have c1 := hst.cN
      have c2 := hst.cH
      have he : ((Ts.length : Int) == (lim : Int)) = false := by simp; omega
      clear hst hbt hbg hk0 hf hTl hq HLoop hk64 HE r hl hlt hr0 HCut hh hx
      go_enter Tryd.func58, Tryd.ntmps58
      go_wp2
      exact bodyPost_ret (v := .tuple #[]) (by simp [results, Tryd.results58, go_sem]) rfl HP.out
    | false =>
      by_cases hx0 : x = 0
      · have hun : (unc M (cellsR xs)).length = 0 := by
          rw [unc_cells ho, List.length_map, List.length_eq_zero_iff, List.filter_eq_nil_iff]
          intro j hj
          rw [← hbt, hx0, bt_zero]; simp
        have hcd := cont_done ho hun
        have hMh : M.length = h := by
          rw [hh]
          exact cont_half ho hbg hk64 hk0 M (by rw [hcd]; simp)
        have HE := Lib.hid (show (Ts ++ cont xs M).take lim = Ts ++ [M] by rw [hcd, List.take_of_length_le (by rw [List.length_append, List.length_singleton]; omega)])
        rw [HE.out]
        obtain ⟨j0, hj, hy0, hy1, hy2⟩ := info_parts dssInfo
        obtain ⟨A, cap, S, AL, cL, r⟩ := hst.rows
        have c0 := r.cT
        have c1 := hst.cN
        have c2 := hst.cH
        have he : ((Ts.length : Int) == (lim : Int)) = false := by simp; omega
        have hx1 : ((x : Int) == 0) = true := by simp [hx0]
        have HC := Lib.hid (fun (W' : World) (hb : Below W.heap.size W W') => iClone W' AL M.length cL (bT + 5) M (by omega) (r.on hb).oL)
        have HR := Lib.hid r
        have HMh := Lib.hid hMh
        have hTs : Ts.length ≤ 1000 := by omega
        have hbT := lt_of_block r.vT
        have h5 : bT + 5 ≤ W.heap.size := by have := lt_of_block hst.ke; omega
        have HLn : M.length ≤ 1000 := by omega
        clear hst hbt hbg hk0 hf hTl hq HLoop hk64 HE r hl hlt hr0 HCut hh hx hun hcd hMh ho hlim hx0 hM32
        go_enter Tryd.func58, Tryd.ntmps58
        go_upto_region 2 with fail
--R2--
        refine wp_region_noPanic ?_
        refine wp_region_held_drew (S := (fun w' => w'.cell? ⟨bT + 1, 0, none⟩ = some (.slice AL M.length cL))) (by kernel_rfl) (HR.out.drew.cL') (fun hHeld => ?_)
        refine wpAnyH_take (i := 1) (v := ?_) rfl (by kernel_rfl) (by kernel_rfl) (by kernel_rfl) (fun _ _ _ h => h) (Or.inl ⟨by rfl, ?_⟩) (by assumption) ?_
        rotate_left
        · (intro w' hS; (try dsimp only at hS); go_simp; try with_reducible rfl)
        try simp only [Act.put, List.getElem_toArray, List.getElem_cons_succ, List.getElem_cons_zero, List.setIfInBounds_toArray, List.set_cons_zero, List.set_cons_succ]
        refine wpAnyH_ready (rs := [0, 2]) (by kernel_rfl) (by simp) ?_
        refine AllReadyH.cons rfl (fun K hK => ?_) (AllReadyH.cons rfl (fun K hK => ?_) (AllReadyH.nil))
        · have cX := HR.out.drew.cT
          go_simp
          refine hK.out _ _ HR.out.drew.cL' (fun hHeld => ?_)
          clear cX
          clear hK K
          try simp only [Act.put, List.getElem_toArray, List.getElem_cons_succ, List.getElem_cons_zero, List.setIfInBounds_toArray, List.set_cons_zero, List.set_cons_succ]
          refine wpAnyH_ready (rs := [2]) (by kernel_rfl) (by simp) ?_
          refine AllReadyH.cons rfl (fun K hK => ?_) (AllReadyH.nil)
          · go_simp
            refine (HC.out _ ((Below.refl _ _).drew)).mono ?_
            rintro e w2 ⟨A2, cap2, rfl, hown2, hb2⟩
            have R2 := HR.out.drew.on hb2
            go_wp2_with fail
            refine hK.out _ _ R2.cL' (fun hHeld => ?_)
            clear hK K
            try simp only [Act.put, List.getElem_toArray, List.getElem_cons_succ, List.getElem_cons_zero, List.setIfInBounds_toArray, List.set_cons_zero, List.set_cons_succ]
            refine wpAnyH_ready (rs := [3]) (by kernel_rfl) (by simp) ?_
            refine AllReadyH.cons rfl (fun K hK => ?_) (AllReadyH.nil)
            · have R3 := R2.on (below_alloc1 w2 (.cells #[.slice A2 M.length cap2] TL))
              go_simp
              refine hK.out _ _ R3.cL' (fun hHeld => ?_)
              clear hK K
              try simp only [Act.put, List.getElem_toArray, List.getElem_cons_succ, List.getElem_cons_zero, List.setIfInBounds_toArray, List.set_cons_zero, List.set_cons_succ]
              refine wpAnyH_ready (rs := [4]) (by kernel_rfl) (by simp) ?_
              refine AllReadyH.cons rfl (fun K hK => ?_) (AllReadyH.nil)
              · refine step_append_lies _ (by rfl) _ _ 28 (by rfl) (bT + 5) TL j0 (.slice none 0 0) 1 24 Tryd.underlying28 hj hy0 hy1 hy2 rfl (by decide) (.slice A Ts.length cap) Ts.length (outs h S) (by rfl) R3.oT ⟨w2.heap.size, 0, none⟩ 1 1 [.slice A2 M.length cap2] (by rfl) rfl (World.news_of_block (cs := #[.slice A2 M.length cap2]) (t := TL) (fr := (0, 0)) (heap_alloc_new w2 _)) (by simp [Value.oneCell']) (by omega) (by unfold maxLen; omega) (by omega) (by have := hb2.size; have h6 : W.drew.heap.size = W.heap.size := rfl; simp; omega) _ rfl ?_
                intro g6 c6 w6 hown6 hg6 hat6 hlt6
                obtain ⟨t0, t1, t2⟩ := R3.grown (row_low R3.oT) hg6
                refine hK.out _ _ t2 (fun hHeld => ?_)
                clear hK K
                try simp only [Act.put, List.getElem_toArray, List.getElem_cons_succ, List.getElem_cons_zero, List.setIfInBounds_toArray, List.set_cons_zero, List.set_cons_succ]
                refine wpAnyH_ready (rs := [5]) (by kernel_rfl) (by simp) ?_
                refine AllReadyH.cons rfl (fun K hK => ?_) (AllReadyH.nil)
                · go_simp
                  refine hK.out _ _ (far_cell t2 (by show bT + 1 ≠ bT; omega) _) (fun hHeld => ?_)
                  clear hK K
                  try simp only [Act.put, List.getElem_toArray, List.getElem_cons_succ, List.getElem_cons_zero, List.setIfInBounds_toArray, List.set_cons_zero, List.set_cons_succ]
                  refine wpAnyH_done (by kernel_rfl) ?_ _
                  refine NoPanic.normal ?_
                  have HX := Lib.hid (leaf_end (q := q + U (f + 1)) (HS.out.more (Nat.le_add_right _ _)) HR.out HMh.out hb2 hown2 hg6 hat6 hown6)
                  clear hown2 hown6 hg6 hat6 R2 R3 hb2
                  go_wp2
                  exact bodyPost_ret (v := .tuple #[]) (by simp [results, Tryd.results58, go_sem]) rfl HX.out
        · go_simp
          refine (HC.out _ ((Below.refl _ _).drew)).mono ?_
          rintro e w2 ⟨A2, cap2, rfl, hown2, hb2⟩
          have R2 := HR.out.drew.on hb2
          go_wp2_with fail
          refine hK.out _ _ R2.cL' (fun hHeld => ?_)
          clear hK K
          try simp only [Act.put, List.getElem_toArray, List.getElem_cons_succ, List.getElem_cons_zero, List.setIfInBounds_toArray, List.set_cons_zero, List.set_cons_succ]
          refine wpAnyH_ready (rs := [0, 3]) (by kernel_rfl) (by simp) ?_
          refine AllReadyH.cons rfl (fun K hK => ?_) (AllReadyH.cons rfl (fun K hK => ?_) (AllReadyH.nil))
          · have cX := R2.cT
            go_simp
            refine hK.out _ _ R2.cL' (fun hHeld => ?_)
            clear cX
            clear hK K
            try simp only [Act.put, List.getElem_toArray, List.getElem_cons_succ, List.getElem_cons_zero, List.setIfInBounds_toArray, List.set_cons_zero, List.set_cons_succ]
            refine wpAnyH_ready (rs := [3]) (by kernel_rfl) (by simp) ?_
            refine AllReadyH.cons rfl (fun K hK => ?_) (AllReadyH.nil)
            · have R3 := R2.on (below_alloc1 w2 (.cells #[.slice A2 M.length cap2] TL))
              go_simp
              refine hK.out _ _ R3.cL' (fun hHeld => ?_)
              clear hK K
              try simp only [Act.put, List.getElem_toArray, List.getElem_cons_succ, List.getElem_cons_zero, List.setIfInBounds_toArray, List.set_cons_zero, List.set_cons_succ]
              refine wpAnyH_ready (rs := [4]) (by kernel_rfl) (by simp) ?_
              refine AllReadyH.cons rfl (fun K hK => ?_) (AllReadyH.nil)
              · refine step_append_lies _ (by rfl) _ _ 28 (by rfl) (bT + 5) TL j0 (.slice none 0 0) 1 24 Tryd.underlying28 hj hy0 hy1 hy2 rfl (by decide) (.slice A Ts.length cap) Ts.length (outs h S) (by rfl) R3.oT ⟨w2.heap.size, 0, none⟩ 1 1 [.slice A2 M.length cap2] (by rfl) rfl (World.news_of_block (cs := #[.slice A2 M.length cap2]) (t := TL) (fr := (0, 0)) (heap_alloc_new w2 _)) (by simp [Value.oneCell']) (by omega) (by unfold maxLen; omega) (by omega) (by have := hb2.size; have h6 : W.drew.heap.size = W.heap.size := rfl; simp; omega) _ rfl ?_
                intro g6 c6 w6 hown6 hg6 hat6 hlt6
                obtain ⟨t0, t1, t2⟩ := R3.grown (row_low R3.oT) hg6
                refine hK.out _ _ t2 (fun hHeld => ?_)
                clear hK K
                try simp only [Act.put, List.getElem_toArray, List.getElem_cons_succ, List.getElem_cons_zero, List.setIfInBounds_toArray, List.set_cons_zero, List.set_cons_succ]
                refine wpAnyH_ready (rs := [5]) (by kernel_rfl) (by simp) ?_
                refine AllReadyH.cons rfl (fun K hK => ?_) (AllReadyH.nil)
                · go_simp
                  refine hK.out _ _ (far_cell t2 (by show bT + 1 ≠ bT; omega) _) (fun hHeld => ?_)
                  clear hK K
                  try simp only [Act.put, List.getElem_toArray, List.getElem_cons_succ, List.getElem_cons_zero, List.setIfInBounds_toArray, List.set_cons_zero, List.set_cons_succ]
                  refine wpAnyH_done (by kernel_rfl) ?_ _
                  refine NoPanic.normal ?_
                  have HX := Lib.hid (leaf_end (q := q + U (f + 1)) (HS.out.more (Nat.le_add_right _ _)) HR.out HMh.out hb2 hown2 hg6 hat6 hown6)
                  clear hown2 hown6 hg6 hat6 R2 R3 hb2
                  go_wp2
                  exact bodyPost_ret (v := .tuple #[]) (by simp [results, Tryd.results58, go_sem]) rfl HX.out
          · have R3 := R2.on (below_alloc1 w2 (.cells #[.slice A2 M.length cap2] TL))
            go_simp
            refine hK.out _ _ R3.cL' (fun hHeld => ?_)
            clear hK K
            try simp only [Act.put, List.getElem_toArray, List.getElem_cons_succ, List.getElem_cons_zero, List.setIfInBounds_toArray, List.set_cons_zero, List.set_cons_succ]
            refine wpAnyH_ready (rs := [0]) (by kernel_rfl) (by simp) ?_
            refine AllReadyH.cons rfl (fun K hK => ?_) (AllReadyH.nil)
            · have cX := R3.cT
              go_simp
              refine hK.out _ _ R3.cL' (fun hHeld => ?_)
              clear cX
              clear hK K
              try simp only [Act.put, List.getElem_toArray, List.getElem_cons_succ, List.getElem_cons_zero, List.setIfInBounds_toArray, List.set_cons_zero, List.set_cons_succ]
              refine wpAnyH_ready (rs := [4]) (by kernel_rfl) (by simp) ?_
              refine AllReadyH.cons rfl (fun K hK => ?_) (AllReadyH.nil)
              · refine step_append_lies _ (by rfl) _ _ 28 (by rfl) (bT + 5) TL j0 (.slice none 0 0) 1 24 Tryd.underlying28 hj hy0 hy1 hy2 rfl (by decide) (.slice A Ts.length cap) Ts.length (outs h S) (by rfl) R3.oT ⟨w2.heap.size, 0, none⟩ 1 1 [.slice A2 M.length cap2] (by rfl) rfl (World.news_of_block (cs := #[.slice A2 M.length cap2]) (t := TL) (fr := (0, 0)) (heap_alloc_new w2 _)) (by simp [Value.oneCell']) (by omega) (by unfold maxLen; omega) (by omega) (by have := hb2.size; have h6 : W.drew.heap.size = W.heap.size := rfl; simp; omega) _ rfl ?_
                intro g6 c6 w6 hown6 hg6 hat6 hlt6
                obtain ⟨t0, t1, t2⟩ := R3.grown (row_low R3.oT) hg6
                refine hK.out _ _ t2 (fun hHeld => ?_)
                clear hK K
                try simp only [Act.put, List.getElem_toArray, List.getElem_cons_succ, List.getElem_cons_zero, List.setIfInBounds_toArray, List.set_cons_zero, List.set_cons_succ]
                refine wpAnyH_ready (rs := [5]) (by kernel_rfl) (by simp) ?_
                refine AllReadyH.cons rfl (fun K hK => ?_) (AllReadyH.nil)
                · go_simp
                  refine hK.out _ _ (far_cell t2 (by show bT + 1 ≠ bT; omega) _) (fun hHeld => ?_)
                  clear hK K
                  try simp only [Act.put, List.getElem_toArray, List.getElem_cons_succ, List.getElem_cons_zero, List.setIfInBounds_toArray, List.set_cons_zero, List.set_cons_succ]
                  refine wpAnyH_done (by kernel_rfl) ?_ _
                  refine NoPanic.normal ?_
                  have HX := Lib.hid (leaf_end (q := q + U (f + 1)) (HS.out.more (Nat.le_add_right _ _)) HR.out HMh.out hb2 hown2 hg6 hat6 hown6)
                  clear hown2 hown6 hg6 hat6 R2 R3 hb2
                  go_wp2
                  exact bodyPost_ret (v := .tuple #[]) (by simp [results, Tryd.results58, go_sem]) rfl HX.out
--R2 END--
      · exact HLoop.out W K q x Ts M k hst hx hbt hbg hk64 hk0 hf hlt hq hx0 hrun
end Go.Proofs.YtmaghekcpopepaaDoor.Ext

/- The closure that extends a list of dominoes: what is true of sets and lists where a domino is laid, pure. -/
namespace Go.Proofs.YtmaghekcpopepaaDoor.Ext
set_option linter.unusedVariables false
set_option linter.unusedSimpArgs false
set_option maxRecDepth 100000
open Go.RowKit Go.Proofs.YtmaghekcpopepaaDoor.Base Go.Proofs.YtmaghekcpopepaaDoor.Pure Go.Proofs.YtmaghekcpopepaaDoor.Cell Go.Proofs.YtmaghekcpopepaaDoor.Cels Go.Proofs.YtmaghekcpopepaaDoor.Dom Go.Proofs.YtmaghekcpopepaaDoor.Dms Go.Proofs.YtmaghekcpopepaaDoor.Til Go.Proofs.YtmaghekcpopepaaDoor.Grd Go.Proofs.YtmaghekcpopepaaDoor.Dss Go.Proofs.YtmaghekcpopepaaDoor.Lis Go.Proofs.YtmaghekcpopepaaDoor.Sets Go.Joins
open Go.Proofs.YtmaghekcpopepaaDoor.Cnt (gR tiles gR_in gR_out)
open Go.Proofs.YtmaghekcpopepaaDoor.Reg hiding Yes add_none

theorem take_grow {α : Type} (A B : List α) (n : Nat) : (A.take n ++ B).take n = (A ++ B).take n := by
  rw [List.take_append, List.take_append, List.take_take, Nat.min_self, List.length_take]
  congr 2
  omega
theorem pre_grow {xs : List Int} {M : List Dm} {c t lim : Nat} {Ts : List (List Dm)} (ht : t < 2) : ((Ts ++ pre xs M c t).take lim ++ one xs M c (decide (t = 1))).take lim = (Ts ++ pre xs M c (t + 1)).take lim := by
  rw [take_grow, pre_step ht, List.append_assoc]
/-- 'has' at the other place of a domino. -/
theorem has_can {xs : List Int} {M : List Dm} {x c : Nat} (hbt : bt x = gM xs M) (hc : c < 64) (b : Bool) : hasS x (sx (plc c).1 b) (sy (plc c).2 b) = canB xs M c b := by
  unfold hasS
  rw [Bool.eq_iff_iff, Bool.and_eq_true, okB_iff]
  have key : oth c b < 64 → (b = false → c % 8 ≠ 7) → sx (plc c).1 b = (plc (oth c b)).1 ∧ sy (plc c).2 b = (plc (oth c b)).2 := fun h1 h2 => by
    obtain ⟨_, o2, o3⟩ := oth_ok h1 h2
    exact ⟨o2, o3⟩
  have hidx : ∀ k, k < 64 → ((plc k).2 * 8 + (plc k).1).toNat = k := fun k hk => by unfold plc; simp only; omega
  constructor
  · rintro ⟨h1, h2⟩
    have hk : oth c b < 64 ∧ (b = false → c % 8 ≠ 7) := by
      unfold Ok plc at h1
      cases b
      · simp only [sx, sy, Bool.false_eq_true, if_false] at h1
        unfold wrap64 at h1
        unfold oth
        simp only [Bool.false_eq_true, if_false]
        exact ⟨by omega, fun _ => by omega⟩
      · simp only [sx, sy, if_true] at h1
        unfold wrap64 at h1
        unfold oth
        simp only [if_true]
        exact ⟨by omega, fun q => by cases q⟩
    obtain ⟨e1, e2⟩ := key hk.1 hk.2
    rw [e1, e2, hidx _ hk.1, hbt] at h2
    unfold canB
    rw [h2, Bool.and_true]
    cases b
    · simpa using hk.2 rfl
    · rfl
  · intro h
    obtain ⟨h1, h2, h3⟩ := can_lt h
    obtain ⟨e1, e2⟩ := key h1 h2
    rw [e1, e2, hidx _ h1, hbt]
    exact ⟨ok_plc h1, h3⟩
/-- the set without two cells. -/
def without (x c e : Nat) : Nat := x &&& (18446744073709551615 - (2 ^ c ||| 2 ^ e))
theorem without_bt {xs : List Int} {M : List Dm} {x c : Nat} {b : Bool} (hx : x < 18446744073709551616) (hbt : bt x = gM xs M) (hc : c < 64) (h : canB xs M c b = true) : bt (without x c (oth c b)) = gM xs (M ++ [dmN c b]) := by
  obtain ⟨h1, h2, h3⟩ := can_lt h
  rw [gM_snoc h1 h2]
  funext i
  unfold without
  rw [bt_minus hx (or_lt (one_lt hc) (one_lt h1)), bt_or, bt_one, bt_one, hbt]
  unfold Cnt.rem
  by_cases e1 : c = i
  · subst e1; simp
  · by_cases e2 : oth c b = i
    · subst e2; simp
    · have e3 : ¬ i = c := fun q => e1 q.symm
      have e4 : ¬ i = oth c b := fun q => e2 q.symm
      simp [e1, e2, e3, e4]
/-- two cells in a new block. -/
theorem two_cells (W : World) (x y u v : Int) : RdC (W.alloc (.cells #[.int .i64 x, .int .i64 y, .int .i64 u, .int .i64 v] 68)) W.heap.size 0 [(x, y), (u, v)] := by
  have hb := heap_alloc_new W (.cells #[.int .i64 x, .int .i64 y, .int .i64 u, .int .i64 v] 68)
  refine ⟨fun _ => (Array.getElem?_eq_some_iff.1 hb).1, fun j p hp => ?_⟩
  match j, hp with
  | 0, hp => simp at hp; subst hp; exact ⟨(cell_of_row _ _ 0 _ _ _ hb).trans rfl, (cell_of_row _ _ 1 _ _ _ hb).trans rfl⟩
  | 1, hp => simp at hp; subst hp; exact ⟨(cell_of_row _ _ 2 _ _ _ hb).trans rfl, (cell_of_row _ _ 3 _ _ _ hb).trans rfl⟩
  | j + 2, hp => simp at hp
theorem set_two (c e : Nat) : setN [c, e] = 2 ^ c ||| 2 ^ e := by unfold setN; simp
section
variable {K : Nat → Prop} {bT h : Nat} {Ts : List (List Dm)} {M : List Dm} {W W' : World} {A : Option Addr} {cap : Nat} {S : List (Option Addr × Nat)} {AL : Option Addr} {cL : Nat}
theorem Rw.grownL {row : Option Nat} (r : Rw K bT h Ts M W A cap S AL cL) (hlow : ∀ g, row = some g → bT + 5 ≤ g) (hg : W.grownBy W' row) : W'.cell? ⟨bT + 1, 0, none⟩ = some (.slice AL M.length cL) ∧ W'.frozen? ⟨bT + 1, 0, none⟩ = false := by
  have h2 : W'.heap[bT + 1]? = W.heap[bT + 1]? := hg.block _ (lt_of_block r.vL) (fun e => by have := hlow _ e.symm; omega)
  exact ⟨cell_of_one (h2.trans r.vL), free_of_one (h2.trans r.vL)⟩
/-- the list's row where it is not empty. -/
theorem Rw.last {d : Dm} (r : Rw K bT h Ts (M ++ [d]) W A cap S AL cL) : ∃ g, AL = some ⟨g, 0, none⟩ ∧ M.length + 1 ≤ cL ∧ (cL : Int) ≤ 9223372036854775807 := by
  rcases r.oL.2 with ⟨_, q⟩ | ⟨g, cap, cur, hv, _, _, hn, hm, _⟩
  · simp at q
  · injection hv with h1 h2 h3
    subst h3
    rw [List.length_append, List.length_singleton] at hn
    unfold maxLen at hm
    exact ⟨g, h1, hn, by omega⟩
end
end Go.Proofs.YtmaghekcpopepaaDoor.Ext

/- The closure that extends a list of dominoes: where there are cells left, a domino is laid to the right and one down: the walk. -/
namespace Go.Proofs.YtmaghekcpopepaaDoor.Ext
set_option linter.unusedVariables false
set_option linter.unusedSimpArgs false
set_option maxRecDepth 100000
open Go.RowKit Go.Proofs.YtmaghekcpopepaaDoor.Base Go.Proofs.YtmaghekcpopepaaDoor.Pure Go.Proofs.YtmaghekcpopepaaDoor.Cell Go.Proofs.YtmaghekcpopepaaDoor.Cels Go.Proofs.YtmaghekcpopepaaDoor.Dom Go.Proofs.YtmaghekcpopepaaDoor.Dms Go.Proofs.YtmaghekcpopepaaDoor.Til Go.Proofs.YtmaghekcpopepaaDoor.Grd Go.Proofs.YtmaghekcpopepaaDoor.Dss Go.Proofs.YtmaghekcpopepaaDoor.Lis Go.Proofs.YtmaghekcpopepaaDoor.Sets Go.Joins
open Go.Proofs.YtmaghekcpopepaaDoor.Cnt (gR tiles gR_in gR_out)
open Go.Proofs.YtmaghekcpopepaaDoor.Reg hiding Yes add_none

set_option maxHeartbeats 4000000 in
theorem ext_loop (xs : List Int) (ho : okR xs) (bN bT lim h : Nat) (hh : h = (cellsR xs).length / 2) (hlim : lim ≤ 1000) (f : Nat) (ih : ExtC xs bN bT lim h f) : ExtL xs bN bT lim h f := by
  intro W K q x Ts M k hst hx hbt hbg hk64 hk0 hf hTl hq hx0 hrun
  have HS := Lib.hid hst
  have hM32 : M.length ≤ 32 := by
    have := part_length (part_yes (okRB_of ho) hbg.1)
    omega
  obtain ⟨i0, hi, hz0, hz1, hz2⟩ := info_parts domInfo
  have HE : ∃ c, c = Lib.ctz 64 x ∧ c < 64 ∧ gM xs M c = true ∧ ∀ i, i < c → gM xs M i = false := by
    obtain ⟨a1, a2, a3⟩ := ctz_is hx0 hx
    exact ⟨_, rfl, a1, by rw [← hbt]; exact a2, fun i hi => by rw [← hbt]; exact a3 i hi⟩
  obtain ⟨c, hcz, hc64, hcg, hcf⟩ := HE
  have HFi := Lib.hid (show Calls Tryd.prog 60 #[.int .u64 (x : Int)] W (CelOf c W) by rw [hcz]; exact iFirst x hx0 hx W hst.tab)
  have HCt := Lib.hid (show cont xs M = pre xs M c 2 by rw [cont_step hc64 hcg hcf]; simp [pre])
  have HNo := Lib.hid (show ∀ r : Bool, r = decide (((Ts ++ cont xs M).take lim).length = Ts.length) → r = true → LsG (bt x) = [] from fun r hr h1 => by
    rw [h1] at hr
    have h2 := of_decide_eq_true hr.symm
    rw [List.length_take, List.length_append] at h2
    have h3 : (cont xs M).length = 0 := by omega
    have h4 := List.eq_nil_of_length_eq_zero h3
    unfold cont at h4
    rw [List.map_eq_nil_iff] at h4
    rw [hbt]; exact h4)
  have HHas := Lib.hid (fun b W => by have := iHas x hx (sx (plc c).1 b) (sy (plc c).2 b) W; rw [has_can hbt hc64 b] at this; exact this)
  have HGr := Lib.hid (fun t (ht : t < 2) => pre_grow (xs := xs) (M := M) (c := c) (lim := lim) (Ts := Ts) ht)
  have HIH := Lib.hid (show ∀ (b : Bool) (W : World) (K : Nat → Prop) (q : Nat) (Ts : List (List Dm)), canB xs M c b = true → St K bN bT lim h q Ts (M ++ [dmN c b]) W → Ts.length ≤ lim → q + U f ≤ 1099511627776 →
      Calls Tryd.prog 58 #[.int .u64 ((without x c (oth c b) : Nat) : Int), .pointer (some ⟨bT, 0, none⟩), .pointer (some ⟨bN, 0, none⟩), .pointer (some ⟨bT + 3, 0, none⟩), .pointer (some ⟨bT + 1, 0, none⟩), .pointer (some ⟨bT + 4, 0, none⟩)] W (Xt K bN bT lim h (q + U f) ((Ts ++ one xs M c b).take lim) (M ++ [dmN c b]) W) from fun b W K q Ts hc hst' hT hq' => by
    have hkc : k ≤ c := by
      by_cases q : k ≤ c
      · exact q
      · have := hk0 c (by omega); rw [hcg] at this; cases this
    have hB1 := (hbg.mono hkc).step ho hcg hc
    obtain ⟨l1, l2, l3⟩ := can_lt hc
    have hst2 : stepB xs M (dmN c b) = true := by
      have := hB1.1 M.length (by simp)
      rwa [stp_last] at this
    have hus := unc_step hst2
    have hz : ∀ i, i < c + 1 → gM xs (M ++ [dmN c b]) i = false := fun i hi => by
      rw [gM_snoc l1 l2, Bool.eq_false_iff, Ne, Cnt.rem_iff]
      rintro ⟨b1, b2, b3⟩
      rw [hcf i (by omega)] at b1; cases b1
    have hone : one xs M c b = cont xs (M ++ [dmN c b]) := by unfold one; rw [if_pos hc]
    rw [hone]
    exact ih W K q _ Ts (M ++ [dmN c b]) (c + 1) hst' (minus_lt hx) (without_bt hx hbt hc64 hc) hB1 (by omega) hz (by omega) hT hq')
  have HOth := Lib.hid (fun (b : Bool) (hc : canB xs M c b = true) => show oth c b < 64 ∧ sx (plc c).1 b = (plc (oth c b)).1 ∧ sy (plc c).2 b = (plc (oth c b)).2 from ⟨(can_lt hc).1, (oth_ok (can_lt hc).1 (can_lt hc).2.1).2⟩)
  have HUq := Lib.hid (show q + 2 * U f + 1 ≤ 1099511627776 ∧ q + 2 * U f + 1 = q + U (f + 1) by
    have e : U (f + 1) = 2 * U f + 1 := rfl
    omega)
  have hsm : Sm (plc c).1 ∧ Sm (plc c).2 := by unfold Sm plc; simp only; omega
  have HCel := Lib.hid (fun b W => iCells (plc c).1 (plc c).2 b hsm.1 hsm.2 W)
  have HDm := Lib.hid (show ∀ b, dmN c b = ((plc c).1, (plc c).2, b) from fun b => rfl)
  obtain ⟨A, cap, S, AL, cL, r⟩ := hst.rows
  have c0 := r.cT
  have c1 := hst.cN
  have c2 := hst.cH
  have he : ((Ts.length : Int) == (lim : Int)) = false := by simp; omega
  have hx1 : ((x : Int) == 0) = false := by simp; omega
  have hTs : Ts.length ≤ 1000 := by omega
  have HT0 := Lib.hid (show (Ts ++ pre xs M c 0).take lim = Ts by rw [show pre xs M c 0 = [] from rfl, List.append_nil, List.take_of_length_le (by omega)])
  clear ih hbt hbg hk64 hk0 hf hcz hcg hcf hh ho hx0 hsm hTl hst hq
  go_enter Tryd.func58, Tryd.ntmps58
  go_wp2_with fail
  refine HFi.out.mono ?_
  rintro e w1 ⟨rfl, hb1⟩
  have k1 := HS.out.on hb1
  have p1 := HS.out.kp hb1
  clear HFi c0 c1 c2 he r hb1 hrun hx1
  obtain ⟨cx, hcx⟩ : ∃ u, u = (plc c).1 := ⟨_, rfl⟩
  obtain ⟨cy, hcy⟩ : ∃ u, u = (plc c).2 := ⟨_, rfl⟩
  have HPl := Lib.hid (show plc c = (cx, cy) by rw [hcx, hcy])
  rw [← hcx, ← hcy] at HHas HOth HCel HDm ⊢
  clear hcx hcy
  obtain ⟨K', hK1, hK2, kb⟩ : ∃ K' : Nat → Prop, (∀ j, K j → K' j) ∧ K' w1.heap.size ∧ St K' bN bT lim h q Ts M (w1.alloc (.cells #[.int .i64 cx, .int .i64 cy] 68)) := ⟨_, fun j hj => .inl hj, .inr rfl, k1.box _⟩
  have Z1 := At2.new w1 cx cy
  have p2 := p1.trans (k1.kp (below_alloc1 w1 (.cells #[.int .i64 cx, .int .i64 cy] 68)))
  have HKK := Lib.hid (And.intro hK1 hK2)
  clear hK1 hK2
  go_upto_region 5 with fail
  generalize w1.alloc (.cells #[.int .i64 cx, .int .i64 cy] 68) = W1 at kb Z1 p2 ⊢
  generalize w1.heap.size = p at Z1 HKK ⊢
  have HKt := Lib.hid HS.out.kt
  clear k1 p1 HS
  have HZ := Lib.hid (fun W (hk : Kp K' W1 W) => show At2 W p cx cy from (hk.block p HKK.out.2).trans Z1)
  go_wp2_with fail
  go_loopw [35] (fun i wr => ∃ t : Nat, t ≤ 2 ∧ i = .int .i64 t ∧ St K' bN bT lim h (q + t * U f) ((Ts ++ pre xs M c t).take lim) M wr ∧ Kp K' W1 wr) (fun i _ => 2 - (intOf i).toNat)
  case atStart => exact ⟨0, by omega, rfl, by rw [show (Ts ++ pre xs M c 0).take lim = Ts from HT0.out]; exact kb.more (Nat.le_add_right _ _), Kp.refl _ _⟩
  case round =>
    clear kb Z1
    obtain ⟨t, ht, rfl, k1, p1⟩ := hrel
    by_cases ht2 : t < 2
    · have HG := Lib.hid (HGr.out t ht2)
      have hL : ((Ts ++ pre xs M c t).take lim).length ≤ lim := by rw [List.length_take]; omega
      generalize (Ts ++ pre xs M c t).take lim = L at k1 HG hL
      have hat := atBit ht2 wr
      obtain ⟨b, hb⟩ : ∃ b, b = decide (t = 1) := ⟨_, rfl⟩
      rw [← hb] at hat HG
      clear hb
      have Z2 := HZ.out _ p1
      have d0 := Z2.c0
      have d1 := Z2.c1
      have HCb := Lib.hid (fun W => HCel.out b W)
      have HHb := Lib.hid (fun W => HHas.out b W)
      have HOb := Lib.hid (fun h => HOth.out b h)
      have HIb := Lib.hid (fun W K q Ts h1 h2 h3 h4 => HIH.out b W K q Ts h1 h2 h3 h4)
      have HDb := Lib.hid (HDm.out b)
      have HQ2 := Lib.hid (show q + t * U f + U f ≤ 1099511627776 ∧ q + (t + 1) * U f = q + t * U f + U f by
        have h1 := HUq.out.1
        have h2 : (t + 1) * U f = t * U f + U f := by rw [Nat.add_mul, Nat.one_mul]
        have h3 : t * U f ≤ U f := by
          have : t * U f ≤ 1 * U f := Nat.mul_le_mul_right _ (by omega)
          omega
        omega)
      have HGs := Lib.hid (fun hno : canB xs M c b = false => show L = (Ts ++ pre xs M c (t + 1)).take lim by
        rw [← HG.out]; unfold one; rw [hno, if_neg (by simp), List.append_nil, List.take_of_length_le hL])
      generalize sx cx b = u at HCb HHb HOb
      generalize sy cy b = v at HCb HHb HOb
      clear HIH HDm HCel HHas HOth
      have k2 := k1.on (below_alloc1 wr (.cells #[.int .i64 cx, .int .i64 cy, .bool b] 37))
      have p3 := p1.trans (k1.kp (below_alloc1 wr (.cells #[.int .i64 cx, .int .i64 cy, .bool b] 37)))
      have Y3 := At3.new 37 wr cx cy b
      go_upto_region 9 with fail
      generalize wr.alloc (.cells #[.int .i64 cx, .int .i64 cy, .bool b] 37) = W3 at k2 p3 Y3 ⊢
      generalize wr.heap.size = pd at Y3 ⊢
      clear d0 d1 hat k1 p1 Z2
      have d0 := Y3.c0
      have d1 := Y3.c1
      have d2 := Y3.c2
      go_wp2_with fail
      refine (HCb.out _).mono ?_
      rintro e w4 ⟨rfl, hb4⟩
      have k4 := (k2.on hb4).on (below_alloc1 w4 (.cells #[.int .i64 cx, .int .i64 cy] 68))
      have p4 := (p3.trans (k2.kp hb4)).trans ((k2.on hb4).kp (below_alloc1 w4 (.cells #[.int .i64 cx, .int .i64 cy] 68)))
      have Y4 := (Y3.on hb4).on (below_alloc1 w4 (.cells #[.int .i64 cx, .int .i64 cy] 68))
      have hz4 : (w4.alloc (.cells #[.int .i64 cx, .int .i64 cy] 68)).heap.size = w4.heap.size + 1 := by simp
      clear k2 p3 Y3 d0 d1 d2 hb4 HCb
      go_upto_region 10 with fail
      generalize w4.alloc (.cells #[.int .i64 cx, .int .i64 cy] 68) = W4 at k4 p4 Y4 hz4 ⊢
      rw [← hz4]
      clear hz4
      obtain ⟨K2, hK1, hK2, k5⟩ : ∃ K2 : Nat → Prop, (∀ j, K' j → K2 j) ∧ K2 W4.heap.size ∧ St K2 bN bT lim h (q + t * U f) L M (W4.alloc (.cells #[.int .i64 u, .int .i64 v] 68)) := ⟨_, fun j hj => .inl hj, .inr rfl, k4.box _⟩
      have HK2 := Lib.hid (And.intro hK1 hK2)
      have p5 := p4.trans (k4.kp (below_alloc1 W4 (.cells #[.int .i64 u, .int .i64 v] 68)))
      have Y5 := Y4.on (below_alloc1 W4 (.cells #[.int .i64 u, .int .i64 v] 68))
      have X5 := At2.new W4 u v
      generalize W4.alloc (.cells #[.int .i64 u, .int .i64 v] 68) = W5 at k5 p5 Y5 X5 ⊢
      generalize W4.heap.size = px at X5 HK2 ⊢
      clear k4 p4 Y4 hK1 hK2
      have e0 := X5.c0
      have e1 := X5.c1
      go_wp2_with fail
      refine (HHb.out _).mono ?_
      rintro e w6 ⟨rfl, hb6⟩
      have k6 := k5.on hb6
      have p6 := p5.trans ((k5.kp hb6).less HK2.out.1)
      have Y6 := Y5.on hb6
      have X6 := X5.on hb6
      clear k5 p5 Y5 X5 e0 e1 hb6 HHb
      cases hcan : canB xs M c b with
      | false =>
        have HR := Lib.hid (show St K' bN bT lim h (q + (t + 1) * U f) ((Ts ++ pre xs M c (t + 1)).take lim) M w6 by
          rw [← HGs.out hcan, HQ2.out.2]
          exact (k6.more (Nat.le_add_right _ _)).less HK2.out.1 (HKK.out.1 _ HKt.out))
        clear k6 hcan HGs
        go_wp2
        go_roundw
        case rel => exact ⟨t + 1, by omega, by go_num, HR.out, p6⟩
        case measure => (simp [intOf] <;> omega)
      | true =>
        have HIc := Lib.hid (fun W q Ts h2 h3 h4 => HIb.out W K2 q Ts hcan h2 h3 h4)
        have HOc := Lib.hid (HOb.out hcan)
        have HGc := Lib.hid HG.out
        clear HIb HOb HGs HG
        obtain ⟨A6, cap6, S6, AL6, cL6, r6⟩ := k6.rows
        have g0 := r6.cL'
        have g1 := r6.fL
        have d0 := Y6.c0
        have d1 := Y6.c1
        have d2 := Y6.c2
        have r7 := r6.on (below_alloc1 w6 (.cells #[.int .i64 cx, .int .i64 cy, .bool b] 37))
        have k7 := k6.on (below_alloc1 w6 (.cells #[.int .i64 cx, .int .i64 cy, .bool b] 37))
        have p7 := p6.trans ((k6.kp (below_alloc1 w6 (.cells #[.int .i64 cx, .int .i64 cy, .bool b] 37))).less HK2.out.1)
        have X7 := X6.on (below_alloc1 w6 (.cells #[.int .i64 cx, .int .i64 cy, .bool b] 37))
        have hz7 : (w6.alloc (.cells #[.int .i64 cx, .int .i64 cy, .bool b] 37)).heap.size = w6.heap.size + 1 := by simp
        have h5 : bT + 5 ≤ w6.heap.size := by have := lt_of_block k6.ke; omega
        clear k6 p6 Y6 X6 hcan
        go_upto_region 12 with (first
          | (at_builtin
             go_must (refine wpList_append_lies _ rfl _ _ 30 rfl (bT + 5) 37 i0 (.agg #[.int .i64 0, .int .i64 0, .bool false]) 3 24 Tryd.underlying30 hi hz0 hz1 hz2 rfl (by decide) (.slice AL6 M.length cL6) M.length (rowM M) (by rfl) r7.oL ⟨w6.heap.size, 0, none⟩ 1 1 [.int .i64 cx, .int .i64 cy, .bool b] (by rfl) rfl (World.news_of_block (cs := #[.int .i64 cx, .int .i64 cy, .bool b]) (t := 37) (fr := (0, 0)) (heap_alloc_new w6 _)) (by simp [Value.oneCell']) (by omega) (by unfold maxLen; omega) (by omega) (by omega) _ rfl ?_)
             intro g7 c7 w7 hown7 hg7 hat7 hlt7
             obtain ⟨f0, f1⟩ := r7.grownL (row_low r7.oL) hg7))
        obtain ⟨k8, p8⟩ := k7.push r7 (d := (cx, cy, b)) (by rw [← ownBlock_slice AL6 M.length cL6]; exact hg7) (by rw [← ownBlock_slice AL6 M.length cL6]; exact hat7.imp Eq.symm id) hown7
        rw [← HDb.out] at k8
        have X8 : At2 _ px u v := (p8.block px HK2.out.2).trans X7
        have Z8 := HZ.out _ (p7.trans (p8.less HK2.out.1))
        have p9 := p7.trans (p8.less HK2.out.1)
        clear k7 p7 p8 X7 r7 r6 hown7 hg7 hat7 hlt7 f0 f1 g0 g1 hz7 h5
        generalize w7.setCell ⟨bT + 1, 0, none⟩ (.slice (some ⟨g7, 0, none⟩) (M.length + 1) c7) = W8 at k8 X8 Z8 p9 ⊢
        have k8 := k8.drew
        have p9 := p9.drew
        have X8 : At2 W8.drew px u v := X8
        have Z8 : At2 W8.drew p cx cy := Z8
        have HSt := Lib.hid (fun cp => iSetOf (W8.drew.alloc (.cells #[.int .i64 cx, .int .i64 cy, .int .i64 u, .int .i64 v] 68)) (some ⟨W8.drew.heap.size, 0, none⟩) 2 cp W8.drew.heap.size 0 [(cx, cy), (u, v)] [c, oth c b] (by rw [List.map_cons, List.map_cons, HPl.out, HOc.out.2.1, HOc.out.2.2]; rfl) (fun j hj => by
          rcases List.mem_cons.1 hj with e | e
          · rw [e]; exact hc64
          · rw [List.mem_singleton.1 e]; exact HOc.out.1) rfl (by omega) (fun _ => rfl) (two_cells W8.drew cx cy u v))
        rw [set_two] at HSt
        have hand := u64_andNot_nat x (2 ^ c ||| 2 ^ oth c b) hx (or_lt (one_lt hc64) (one_lt HOc.out.1))
        have hand : bits .andNot .u64 (x : Int) ((2 ^ c ||| 2 ^ oth c b : Nat) : Int) = ((without x c (oth c b) : Nat) : Int) := hand
        generalize without x c (oth c b) = y at hand HIc
        generalize (2 ^ c ||| 2 ^ oth c b) = z at hand HSt
        have k9 := k8.on (below_alloc1 W8.drew (.cells #[.int .i64 cx, .int .i64 cy, .int .i64 u, .int .i64 v] 68))
        have q9 := p9.trans ((k8.kp (below_alloc1 W8.drew (.cells #[.int .i64 cx, .int .i64 cy, .int .i64 u, .int .i64 v] 68))).less HK2.out.1)
        have X9 := X8.on (below_alloc1 W8.drew (.cells #[.int .i64 cx, .int .i64 cy, .int .i64 u, .int .i64 v] 68))
        have Z9 := Z8.on (below_alloc1 W8.drew (.cells #[.int .i64 cx, .int .i64 cy, .int .i64 u, .int .i64 v] 68))
        have hs0 : W8.drew.cell? ⟨bT + 4, 0, none⟩ = some (.func (.func 58) #[] (caps bN bT)) ∧ W8.drew.cell? ⟨p, 0, none⟩ = some (.int .i64 cx) ∧ W8.drew.cell? ⟨p, 1, none⟩ = some (.int .i64 cy) ∧ W8.drew.cell? ⟨px, 0, none⟩ = some (.int .i64 u) ∧ W8.drew.cell? ⟨px, 1, none⟩ = some (.int .i64 v) := ⟨k8.cE, Z8.c0, Z8.c1, X8.c0, X8.c1⟩
        have hs1 : (W8.drew.alloc (.cells #[.int .i64 cx, .int .i64 cy, .int .i64 u, .int .i64 v] 68)).cell? ⟨bT + 4, 0, none⟩ = some (.func (.func 58) #[] (caps bN bT)) ∧ (W8.drew.alloc (.cells #[.int .i64 cx, .int .i64 cy, .int .i64 u, .int .i64 v] 68)).cell? ⟨p, 0, none⟩ = some (.int .i64 cx) ∧ (W8.drew.alloc (.cells #[.int .i64 cx, .int .i64 cy, .int .i64 u, .int .i64 v] 68)).cell? ⟨p, 1, none⟩ = some (.int .i64 cy) ∧ (W8.drew.alloc (.cells #[.int .i64 cx, .int .i64 cy, .int .i64 u, .int .i64 v] 68)).cell? ⟨px, 0, none⟩ = some (.int .i64 u) ∧ (W8.drew.alloc (.cells #[.int .i64 cx, .int .i64 cy, .int .i64 u, .int .i64 v] 68)).cell? ⟨px, 1, none⟩ = some (.int .i64 v) := ⟨k9.cE, Z9.c0, Z9.c1, X9.c0, X9.c1⟩
        clear k8 p9 X8 Z8 HOc HPl
        go_region_held3 (fun w' => w'.cell? ⟨bT + 4, 0, none⟩ = some (.func (.func 58) #[] (caps bN bT)) ∧ w'.cell? ⟨p, 0, none⟩ = some (.int .i64 cx) ∧ w'.cell? ⟨p, 1, none⟩ = some (.int .i64 cy) ∧ w'.cell? ⟨px, 0, none⟩ = some (.int .i64 u) ∧ w'.cell? ⟨px, 1, none⟩ = some (.int .i64 v))
          (first
            | exact hs3
            | exact hs2
            | exact hs1
            | exact hs0
            | go_keep
            | fail)
          (first
            | (go_at_call 63
               go_must (refine (HSt.out _).mono ?_)
               rintro e w10 ⟨rfl, hb10⟩
               have k10 := k9.on hb10
               have q10 := q9.trans ((k9.kp hb10).less HK2.out.1)
               have X10 := X9.on hb10
               have Z10 := Z9.on hb10
               have hs2 : w10.cell? ⟨bT + 4, 0, none⟩ = some (.func (.func 58) #[] (caps bN bT)) ∧ w10.cell? ⟨p, 0, none⟩ = some (.int .i64 cx) ∧ w10.cell? ⟨p, 1, none⟩ = some (.int .i64 cy) ∧ w10.cell? ⟨px, 0, none⟩ = some (.int .i64 u) ∧ w10.cell? ⟨px, 1, none⟩ = some (.int .i64 v) := ⟨k10.cE, Z10.c0, Z10.c1, X10.c0, X10.c1⟩)
            | (go_at_call 58
               go_must (refine (HIc.out _ _ _ k10 hL HQ2.out.1).mono ?_)
               rintro e w11 ⟨rfl, k11, p11⟩
               have q11 := q10.trans (p11.less HK2.out.1)
               have X11 : At2 w11 px u v := (p11.block px HK2.out.2).trans X10
               have Z11 := HZ.out _ q11
               have hs3 : w11.cell? ⟨bT + 4, 0, none⟩ = some (.func (.func 58) #[] (caps bN bT)) ∧ w11.cell? ⟨p, 0, none⟩ = some (.int .i64 cx) ∧ w11.cell? ⟨p, 1, none⟩ = some (.int .i64 cy) ∧ w11.cell? ⟨px, 0, none⟩ = some (.int .i64 u) ∧ w11.cell? ⟨px, 1, none⟩ = some (.int .i64 v) := ⟨k11.cE, Z11.c0, Z11.c1, X11.c0, X11.c1⟩)
            | fail)
        clear hs0 hs1 hs2 hs3 k9 q9 X9 Z9 k10 q10 X10 Z10 X11 Z11 HSt hand
        obtain ⟨Ab, capb, Sb, ALb, cLb, r11⟩ := k11.rows
        obtain ⟨gb, hgb, hcb, hcb2⟩ := r11.last
        subst hgb
        obtain ⟨k12, p12⟩ := k11.pop r11
        have q12 := q11.trans (p12.less HK2.out.1)
        have HR := Lib.hid (show St K' bN bT lim h (q + (t + 1) * U f) ((Ts ++ pre xs M c (t + 1)).take lim) M (w11.setCell ⟨bT + 1, 0, none⟩ (.slice (some ⟨gb, 0, none⟩) M.length cLb)) by
          rw [← HGc.out, HQ2.out.2]
          exact k12.less HK2.out.1 (HKK.out.1 _ HKt.out))
        have g0 := r11.cL'
        have g1 := r11.fL
        rw [List.length_append, List.length_singleton] at g0
        obtain ⟨n1, hn1⟩ : ∃ n1, n1 = M.length + 1 := ⟨_, rfl⟩
        rw [← hn1] at g0 hcb
        have hw1 : wrap64 ((n1 : Int) - 1) = (M.length : Int) := by unfold wrap64; omega
        have hw2 : IntKind.i64.wrap ((n1 : Int) - 1) = (M.length : Int) := by rw [IntKind.wrap_i64]; omega
        have hMn : M.length ≤ cLb := by omega
        clear hn1 k11 p11 q11 k12 p12 r11 HGc HIc HDb
        go_wp2
        go_roundw
        case rel => exact ⟨t + 1, by omega, by go_num, HR.out, q12⟩
        case measure => (simp [intOf] <;> omega)
    · obtain rfl : t = 2 := by omega
      have hTk := HCt.out
      rw [← hTk] at k1
      have HN := HNo.out
      generalize hT' : (Ts ++ cont xs M).take lim = T' at k1 HN
      have HTe := Lib.hid hT'
      obtain ⟨Ab, capb, Sb, ALb, cLb, r1⟩ := k1.rows
      have g0 := r1.cT
      have g2 := k1.cH
      obtain ⟨n, D, hn, hown, hD⟩ := k1.km
      obtain ⟨r, hr⟩ : ∃ r : Bool, r = decide (T'.length = Ts.length) := ⟨_, rfl⟩
      have hNr := HN r hr
      have hrr : ((T'.length : Int) == (Ts.length : Int)) = r := by rw [hr, Bool.eq_iff_iff, beq_iff_eq, decide_eq_true_eq]; omega
      have HU1 := HUq.out
      have HUe := Lib.hid HU1.2
      have hnn : n < maxLen := by unfold maxLen; omega
      have HPut := Lib.hid (fun W2 ho' => MapOk.put (W' := W2) (r := r) hn hown hD hx ho' hNr)
      clear hD hNr HN hr hT' hTk HU1 hn
      go_wp2_with (at_mapUpdate; go_must (refine wpList_mapUpdate_own _ rfl _ _ _ 83 rfl 86 4 law um RE (bT + 2) n D rfl hown hnn _ _ (.int .u64 (x : Int)) rfl rfl (keyU hx) _ [] (plainElem_bool (H := Unit) ub r) ?_); intro w2 hown2 hg2)
      obtain ⟨k2, p2'⟩ := k1.note hg2 (HPut.out w2 hown2)
      have HX := Lib.hid (show Xt K bN bT lim h (q + U (f + 1)) ((Ts ++ cont xs M).take lim) M W (.returned (.tuple #[])) w2 by
        rw [HTe.out]
        exact ⟨rfl, by rw [← HUe.out]; exact k2.less HKK.out.1 HKt.out, p2.trans ((p1.trans p2').less HKK.out.1)⟩)
      clear k2 p2' hown2 hg2
      exact bodyPost_ret (v := .tuple #[]) (by simp [results, Tryd.results58, go_sem]) rfl HX.out
end Go.Proofs.YtmaghekcpopepaaDoor.Ext

/- firstTilings, the program's: the first tilings of a region, each in memory of its own. -/
namespace Go.Proofs.YtmaghekcpopepaaDoor.Ext
set_option linter.unusedVariables false
set_option linter.unusedSimpArgs false
set_option maxRecDepth 100000
open Go.RowKit Go.Proofs.YtmaghekcpopepaaDoor.Base Go.Proofs.YtmaghekcpopepaaDoor.Pure Go.Proofs.YtmaghekcpopepaaDoor.Cell Go.Proofs.YtmaghekcpopepaaDoor.Cels Go.Proofs.YtmaghekcpopepaaDoor.Dom Go.Proofs.YtmaghekcpopepaaDoor.Dms Go.Proofs.YtmaghekcpopepaaDoor.Til Go.Proofs.YtmaghekcpopepaaDoor.Grd Go.Proofs.YtmaghekcpopepaaDoor.Dss Go.Proofs.YtmaghekcpopepaaDoor.Lis Go.Proofs.YtmaghekcpopepaaDoor.Sets Go.Joins
open Go.Proofs.YtmaghekcpopepaaDoor.Cnt (gR tiles gR_in gR_out idxs idxs_cells)
open Go.Proofs.YtmaghekcpopepaaDoor.Reg hiding Yes add_none

theorem iExtend (xs : List Int) (ho : okR xs) (bN bT lim h : Nat) (hh : h = (cellsR xs).length / 2) (hlim : lim ≤ 1000) : ∀ f, ExtC xs bN bT lim h f
  | 0 => fun W K q x Ts M k _ _ _ _ _ _ hf => by omega
  | f + 1 => ext_leaf xs ho bN bT lim h hh hlim f (Lib.hid (ext_loop xs ho bN bT lim h hh hlim f (iExtend xs ho bN bT lim h hh hlim f)))

/-- all tilings of a region; none where it is not valid. -/
def allR (xs : List Int) : List (List Dm) := if okR xs then allT xs else []
theorem allR_ok {xs : List Int} (h : okR xs) : allR xs = allT xs := if_pos h
theorem allR_not {xs : List Int} (h : ¬ okR xs) : allR xs = [] := if_neg h
/-- the size of each. -/
def halfR (xs : List Int) : Nat := (cellsR xs).length / 2
theorem allR_half {xs : List Int} : ∀ L ∈ allR xs, L.length = halfR xs := by
  intro L hL
  by_cases h : okR xs
  · rw [allR_ok h] at hL; exact all_half h L hL
  · rw [allR_not h] at hL; cases hL
/-- slices of dominoes as an answer. -/
def SSP (L : List (List Dm)) (h : Nat) (w : World) (e : Ending) (w' : World) : Prop := ∃ A cap, e = .returned (.slice A L.length cap) ∧ SSIn w' w.heap.size w'.heap.size A L.length cap h L ∧ Below w.heap.size w w'
theorem ss_nil (w : World) (lo hi h : Nat) : SSIn w lo hi none 0 0 h [] := ⟨[], ⟨⟨rfl, .inl ⟨rfl, rfl⟩⟩, fun g hg => by cases hg⟩, Ins.nil _ _ _ _⟩
theorem set_idxs (xs : List Int) : bt (setN (idxs xs)) = gR xs := by
  funext i
  rw [bt_set]
  unfold idxs
  by_cases h : gR xs i = true
  · have h64 : i < 64 := by
      by_cases q : i < 64
      · exact q
      · rw [gR_out xs i (by omega)] at h; cases h
    rw [h, decide_eq_true_eq]
    exact List.mem_filter.2 ⟨List.mem_range.2 h64, h⟩
  · have h : gR xs i = false := by simpa using h
    rw [h, decide_eq_false_iff_not]
    intro hm
    rw [(List.mem_filter.1 hm).2] at h; cases h
theorem idxs_lt {xs : List Int} : ∀ j ∈ idxs xs, j < 64 := fun j hj => List.mem_range.1 (List.mem_filter.1 hj).1
theorem U33 : U 33 = 8589934591 := by decide +kernel

/-- what lies there when the closure is made. -/
theorem st_start (w w1 : World) (lim h : Nat) (hT : Tab w) (z : Value) (hw1 : Below w.heap.size w w1) (hN : w1.heap[w.heap.size + 1]? = some (.cells #[.int .i64 (lim : Int)] 3)) :
    St (fun j => j ≤ w.heap.size) (w.heap.size + 1) w1.heap.size lim h 0 [] [] ((((((w1.alloc (.cells #[.slice none 0 0] TLs)).alloc (.cells #[.slice none 0 0] TL)).alloc (.map #[] 0)).alloc (.cells #[.map (some (w1.heap.size + 2))] 83)).alloc (.cells #[z] 84)).setCell ⟨w1.heap.size + 4, 0, none⟩ (.func (.func 58) #[] (caps (w.heap.size + 1) w1.heap.size))) ∧
    Below w1.heap.size w1 ((((((w1.alloc (.cells #[.slice none 0 0] TLs)).alloc (.cells #[.slice none 0 0] TL)).alloc (.map #[] 0)).alloc (.cells #[.map (some (w1.heap.size + 2))] 83)).alloc (.cells #[z] 84)).setCell ⟨w1.heap.size + 4, 0, none⟩ (.func (.func 58) #[] (caps (w.heap.size + 1) w1.heap.size))) := by
  have hsz1 := lt_of_block hN
  have a0 := heap_alloc_new w1 (.cells #[.slice none 0 0] TLs)
  have b0 := below_alloc1 w1 (.cells #[.slice none 0 0] TLs)
  have z0 : (w1.alloc (.cells #[.slice none 0 0] TLs)).heap.size = w1.heap.size + 1 := by simp
  generalize w1.alloc (.cells #[.slice none 0 0] TLs) = V0 at a0 b0 z0 ⊢
  have a1 := heap_alloc_new V0 (.cells #[.slice none 0 0] TL)
  have b1 := below_alloc1 V0 (.cells #[.slice none 0 0] TL)
  have z1 : (V0.alloc (.cells #[.slice none 0 0] TL)).heap.size = w1.heap.size + 2 := by simp [z0]
  rw [z0] at a1 b1
  generalize V0.alloc (.cells #[.slice none 0 0] TL) = V1 at a1 b1 z1 ⊢
  have m2 := MapOk.new V1
  have b2 := below_alloc1 V1 (.map #[] 0)
  have z2 : (V1.alloc (.map #[] 0)).heap.size = w1.heap.size + 3 := by simp [z1]
  rw [z1] at m2 b2
  generalize V1.alloc (.map #[] 0) = V2 at m2 b2 z2 ⊢
  have a3 := heap_alloc_new V2 (.cells #[.map (some (w1.heap.size + 2))] 83)
  have b3 := below_alloc1 V2 (.cells #[.map (some (w1.heap.size + 2))] 83)
  have z3 : (V2.alloc (.cells #[.map (some (w1.heap.size + 2))] 83)).heap.size = w1.heap.size + 4 := by simp [z2]
  rw [z2] at a3 b3
  generalize V2.alloc (.cells #[.map (some (w1.heap.size + 2))] 83) = V3 at a3 b3 z3 ⊢
  have a4 := heap_alloc_new V3 (.cells #[z] 84)
  have b4 := below_alloc1 V3 (.cells #[z] 84)
  have z4 : (V3.alloc (.cells #[z] 84)).heap.size = w1.heap.size + 5 := by simp [z3]
  rw [z3] at a4 b4
  generalize V3.alloc (.cells #[z] 84) = V4 at a4 b4 z4 ⊢
  have b5 : Below (w1.heap.size + 4) V4 (V4.setCell ⟨w1.heap.size + 4, 0, none⟩ (.func (.func 58) #[] (caps (w.heap.size + 1) w1.heap.size))) := (Below.refl (w1.heap.size + 4) V4).setCell (p := ⟨w1.heap.size + 4, 0, none⟩) (Nat.le_refl _) _
  have a5 := one_setCell (u := .func (.func 58) #[] (caps (w.heap.size + 1) w1.heap.size)) a4
  have z5 : (V4.setCell ⟨w1.heap.size + 4, 0, none⟩ (.func (.func 58) #[] (caps (w.heap.size + 1) w1.heap.size))).heap.size = w1.heap.size + 5 := by rw [← z4]; show (V4.heap.modify _ _).size = _; rw [Array.size_modify]
  generalize V4.setCell ⟨w1.heap.size + 4, 0, none⟩ (.func (.func 58) #[] (caps (w.heap.size + 1) w1.heap.size)) = V5 at a5 b5 z5 ⊢
  have all : ∀ B, B ≤ w1.heap.size → Below B w1 V5 := fun B hB => ((((b0.mono hB).trans (b1.mono (by omega))).trans (b2.mono (by omega))).trans (b3.mono (by omega))).trans ((b4.mono (by omega)).trans (b5.mono (by omega)))
  have e0 : V5.heap[w1.heap.size]? = V0.heap[w1.heap.size]? := (b5.block _ (by omega)).trans ((b4.block _ (by omega)).trans ((b3.block _ (by omega)).trans ((b2.block _ (by omega)).trans (b1.block _ (by omega)))))
  have e1 : V5.heap[w1.heap.size + 1]? = V1.heap[w1.heap.size + 1]? := (b5.block _ (by omega)).trans ((b4.block _ (by omega)).trans ((b3.block _ (by omega)).trans (b2.block _ (by omega))))
  have e2 : V5.heap[w1.heap.size + 2]? = V2.heap[w1.heap.size + 2]? := (b5.block _ (by omega)).trans ((b4.block _ (by omega)).trans (b3.block _ (by omega)))
  have e3 : V5.heap[w1.heap.size + 3]? = V3.heap[w1.heap.size + 3]? := (b5.block _ (by omega)).trans (b4.block _ (by omega))
  have eN := ((all _ (Nat.le_refl _)).block _ hsz1).trans hN
  have hws := hw1.size
  refine ⟨⟨(hT.on hw1 (Nat.le_refl _)).same ((all _ (Nat.le_refl _)).block _ (Nat.lt_of_lt_of_le hT.lt hws)), Nat.le_of_lt hT.lt, eN, e3.trans a3, a5, m2.same e2, by omega, fun j hj => ⟨by omega, by omega, by omega, by omega⟩, none, 0, [], none, 0, ?_⟩, all _ (Nat.le_refl _)⟩
  exact ⟨e0.trans a0, e1.trans a1, ⟨rfl, .inl ⟨rfl, rfl⟩⟩, ⟨rfl, .inl ⟨rfl, rfl⟩⟩, Ins.nil _ _ _ _, (fun s hs => by cases hs), (fun j _ h => by cases h), (fun j _ h => by cases h)⟩

/-- the boxes of a region and a limit. -/
def Two (w : World) (v : Value) (lim : Nat) (W : World) : Prop := Below w.heap.size w W ∧ Rg W w.heap.size v ∧ W.heap[w.heap.size + 1]? = some (.cells #[.int .i64 (lim : Int)] 3)
theorem Two.start (w : World) (v : Value) (lim : Nat) : Two w v lim ((w.alloc (.cells #[v] 26)).alloc (.cells #[.int .i64 (lim : Int)] 3)) := by
  have a := Rg.new w v
  have b := below_alloc1 w (.cells #[v] 26)
  have z : (w.alloc (.cells #[v] 26)).heap.size = w.heap.size + 1 := by simp
  generalize w.alloc (.cells #[v] 26) = W at a b z ⊢
  have c := heap_alloc_new W (.cells #[.int .i64 (lim : Int)] 3)
  rw [z] at c
  exact ⟨b.alloc b.size _, a.on (below_alloc1 W _), c⟩
theorem Two.on {w W W' : World} {v : Value} {lim : Nat} (h : Two w v lim W) (hb : Below W.heap.size W W') : Two w v lim W' := ⟨h.1.trans (hb.mono h.1.size), h.2.1.on hb, (hb.block _ (lt_of_block h.2.2)).trans h.2.2⟩
theorem st_box (w1 : World) (a b c d : Obj) (z : Value) : ((((w1.alloc a).alloc b).alloc c).alloc d).alloc (.cells #[z] 84) |>.heap[w1.heap.size + 4]? = some (.cells #[z] 84) := by
  have h : ((((w1.alloc a).alloc b).alloc c).alloc d).heap.size = w1.heap.size + 4 := by simp
  have := heap_alloc_new ((((w1.alloc a).alloc b).alloc c).alloc d) (.cells #[z] 84)
  rw [h] at this; exact this
theorem run_makeMap0 {w : World} : (Instr.makeMap 83 none).run Tryd.prog w = .ok (.map (some w.heap.size)) (w.alloc (.map #[] 0)) := rfl
theorem hmf (fn : Fn) (first cap : Array Value) (w : World) : (Instr.makeFunc fn first cap).run Tryd.prog w = .ok (.func fn first cap) w := rfl

set_option maxHeartbeats 4000000 in
theorem iFirstTilings (w : World) (A : Option Addr) (n cap B : Nat) (xs : List Int) (hx : xs.length = n) (hn : (n : Int) ≤ 9223372036854775807) (hrow : RowB w B A xs) (hB : B ≤ w.heap.size) (lim : Nat) (hlim : lim ≤ 1000) (hT : Tab w) :
    Calls Tryd.prog 33 #[.agg #[.slice A n cap], .int .i64 (lim : Int)] w (SSP ((allR xs).take lim) (halfR xs) w) := by
  have HOk := Lib.hid (fun W (hb : Below w.heap.size w W) => iRegionOk W A n cap B xs hx hn (hrow.below hb hB) (by have := hb.size; omega))
  have HT := Lib.hid (Two.start w (.slice A n cap) lim)
  by_cases ho : okR xs
  · have HCl := Lib.hid (fun W (hb : Below w.heap.size w W) => iCellsOf W A n cap B xs hx hn (hrow.below hb hB) (by have := hb.size; omega))
    have HUn : (unc [] (cellsR xs)).length < 2 * 33 := by have := unc_length [] (cellsR xs); have := cellsR_length xs; omega
    obtain ⟨R, hR⟩ : ∃ R, R = (allR xs).take lim := ⟨_, rfl⟩
    obtain ⟨x0, hx0⟩ : ∃ x0, x0 = setN (idxs xs) := ⟨_, rfl⟩
    obtain ⟨hf, hhf⟩ : ∃ hf, hf = halfR xs := ⟨_, rfl⟩
    have HEx : ∀ bT, ∃ Q, ∀ (K : Nat → Prop) (W : World), St K (w.heap.size + 1) bT lim hf 0 [] [] W → Calls Tryd.prog 58 #[.int .u64 (x0 : Int), .pointer (some ⟨bT, 0, none⟩), .pointer (some ⟨w.heap.size + 1, 0, none⟩), .pointer (some ⟨bT + 3, 0, none⟩), .pointer (some ⟨bT + 1, 0, none⟩), .pointer (some ⟨bT + 4, 0, none⟩)] W (Xt K (w.heap.size + 1) bT lim hf Q R [] W) := fun bT => ⟨0 + U 33, fun K W k => by
      have := iExtend xs ho (w.heap.size + 1) bT lim (halfR xs) rfl hlim 33 W K 0 (setN (idxs xs)) [] [] 0 (hhf ▸ k) (set_lt idxs_lt) (by rw [set_idxs, gM_nil]) (Beg.zero xs) (Nat.zero_le _) (fun i hi => by omega) HUn (Nat.zero_le _) (by rw [U33]; omega)
      rw [show List.take lim (([] : List (List Dm)) ++ cont xs []) = R by rw [hR, List.nil_append, cont_nil, allR_ok ho]; rfl, ← hx0, ← hhf] at this
      exact this⟩
    have HEx := Lib.hid HEx
    rw [okRB_of ho] at HOk
    have HTab := Lib.hid hT
    have hcs : cellsR xs = (idxs xs).map plc := by rw [cellsR_ok ho, idxs_cells]; rfl
    have hcl := cellsR_length xs
    have hlt := hT.lt
    have hjs : ∀ j ∈ idxs xs, j < 64 := idxs_lt
    generalize cellsR xs = C at hcs hcl HCl
    generalize idxs xs = js at hcs hx0 hjs
    obtain ⟨m, hm⟩ : ∃ m, m = C.length := ⟨_, rfl⟩
    have HCl := Lib.hid (fun W (hb : Below w.heap.size w W) => show Calls Tryd.prog 64 #[.agg #[.slice A n cap]] W (fun e w' => ∃ (A : Option Addr) (cap b off : Nat), e = .returned (.slice A m cap) ∧ Below W.heap.size W w' ∧ Hid (Calls Tryd.prog 63 #[.slice A m cap] w' (SetE x0 w'))) from (HCl.out W hb).mono (by
      rintro e w7 ⟨A1, cap1, rfl, hown7, hb7⟩
      obtain ⟨b7, off7, hA7, hR7⟩ := rowC_own hown7
      refine ⟨A1, cap1, b7, off7, by rw [hm], hb7, Lib.hid ?_⟩
      have := iSetOf w7 A1 C.length cap1 b7 off7 C js hcs hjs (by rw [hcs, List.length_map]) (by omega) (fun h0 => (hA7 h0).1) ⟨fun h0 => (hA7 h0).2, hR7⟩
      rw [← hx0, ← hm] at this
      exact this))
    have HR := Lib.hid hR
    have HH := Lib.hid hhf
    clear hx hn hrow hB hcs hcl hjs hm hx0 hR HUn ho hhf
    go_enter Tryd.func33, Tryd.ntmps33
    go_wp2_with fail
    have T0 := HT.out
    refine (HOk.out _ T0.1).mono ?_
    rintro e w1 ⟨rfl, hb1⟩
    have T1 := T0.on hb1
    clear T0 HT hb1 HOk
    have hm := hmf
    have hmm := @run_makeMap0
    go_upto_region 7 with fail
    rw [show w1.heap.size + 1 + 1 + 1 + 1 = w1.heap.size + 4 from rfl, show w1.heap.size + 1 + 1 + 1 = w1.heap.size + 3 from rfl, show w1.heap.size + 1 + 1 = w1.heap.size + 2 from rfl]
    obtain ⟨k5, b5⟩ := st_start w w1 lim hf HTab.out .nilFunc T1.1 T1.2.2
    have hbx := st_box w1 (.cells #[.slice none 0 0] TLs) (.cells #[.slice none 0 0] TL) (.map #[] 0) (.cells #[.map (some (w1.heap.size + 2))] 83) .nilFunc
    have hc4 := cell_of_one hbx
    have hf4 := free_of_one hbx
    generalize ((((w1.alloc (.cells #[.slice none 0 0] TLs)).alloc (.cells #[.slice none 0 0] TL)).alloc (.map #[] 0)).alloc (.cells #[.map (some (w1.heap.size + 2))] 83)).alloc (.cells #[.nilFunc] 84) = V4 at k5 b5 hc4 hf4 ⊢
    have T5 := T1.on b5
    clear hbx b5 hmm
    go_upto_region 8 with fail
    have hcp : (.func (.func 58) #[] #[.pointer (some ⟨w1.heap.size, 0, none⟩), .pointer (some ⟨w.heap.size + 1, 0, none⟩), .pointer (some ⟨w1.heap.size + 3, 0, none⟩), .pointer (some ⟨w1.heap.size + 1, 0, none⟩), .pointer (some ⟨w1.heap.size + 4, 0, none⟩)] : Value) = .func (.func 58) #[] (caps (w.heap.size + 1) w1.heap.size) := rfl
    rw [hcp]
    generalize V4.setCell ⟨w1.heap.size + 4, 0, none⟩ (.func (.func 58) #[] (caps (w.heap.size + 1) w1.heap.size)) = V5 at k5 T5 ⊢
    have hlo : w.heap.size ≤ w1.heap.size := T1.1.size
    obtain ⟨Q, hQ⟩ := HEx.out w1.heap.size
    have HEx5 := Lib.hid (fun W k => hQ (fun j => j ≤ w.heap.size) W k)
    clear hQ
    generalize w1.heap.size = bT at k5 HEx5 hlo ⊢
    clear T1 hc4 hf4 hcp HEx
    have k6 := k5.drew
    have T6 : Two w (.slice A n cap) lim V5.drew := ⟨T5.1.drew, T5.2⟩
    clear k5 T5
    have hs0 : V5.drew.cell? ⟨bT + 4, 0, none⟩ = some (.func (.func 58) #[] (caps (w.heap.size + 1) bT)) ∧ V5.drew.cell? ⟨w.heap.size, 0, none⟩ = some (.slice A n cap) := ⟨k6.cE, T6.2.1.c0⟩
    go_region_held3 (fun w' => w'.cell? ⟨bT + 4, 0, none⟩ = some (.func (.func 58) #[] (caps (w.heap.size + 1) bT)) ∧ w'.cell? ⟨w.heap.size, 0, none⟩ = some (.slice A n cap))
      (first
        | exact hs3
        | exact hs2
        | exact hs1
        | exact hs0
        | fail)
      (first
        | (go_at_call 64
           go_must (refine (HCl.out _ T6.1).mono ?_)
           rintro e w7 ⟨A1, cap1, b7, off7, rfl, hb7, HSt⟩
           have k7 := k6.on hb7
           have T7 := T6.on hb7
           have hs1 : w7.cell? ⟨bT + 4, 0, none⟩ = some (.func (.func 58) #[] (caps (w.heap.size + 1) bT)) ∧ w7.cell? ⟨w.heap.size, 0, none⟩ = some (.slice A n cap) := ⟨k7.cE, T7.2.1.c0⟩)
        | (go_at_call 63
           go_must (refine HSt.out.mono ?_)
           rintro e w8 ⟨rfl, hb8⟩
           have k8 := k7.on hb8
           have T8 := T7.on hb8
           have hs2 : w8.cell? ⟨bT + 4, 0, none⟩ = some (.func (.func 58) #[] (caps (w.heap.size + 1) bT)) ∧ w8.cell? ⟨w.heap.size, 0, none⟩ = some (.slice A n cap) := ⟨k8.cE, T8.2.1.c0⟩)
        | (go_at_call 58
           go_must (refine (HEx5.out _ k8).mono ?_)
           rintro e w9 ⟨rfl, k9, p9⟩
           have hs3 : w9.cell? ⟨bT + 4, 0, none⟩ = some (.func (.func 58) #[] (caps (w.heap.size + 1) bT)) ∧ w9.cell? ⟨w.heap.size, 0, none⟩ = some (.slice A n cap) := ⟨k9.cE, (World.cell?_of_block (a := ⟨w.heap.size, 0, none⟩) (p9.block _ (Nat.le_refl _))).trans T8.2.1.c0⟩)
        | fail)
    have hb9 : Below w.heap.size w w9 := T8.1.trans (p9.below (fun j hj => by show j ≤ _; omega))
    obtain ⟨Ab, capb, Sb, ALb, cLb, r9⟩ := k9.rows
    have g0 := r9.cT
    have HP := Lib.hid (show SSP ((allR xs).take lim) (halfR xs) w (.returned (.slice Ab R.length capb)) w9 by
      rw [← HR.out, ← HH.out]
      exact ⟨Ab, capb, rfl, ⟨Sb, ⟨Reg.own_base r9.oT (by omega), fun g hg => (r9.oT.lt g hg).2⟩, r9.ins.wide (by omega) (Nat.le_refl _)⟩, hb9⟩)
    clear hs0 hs1 hs2 hs3 k6 k7 k8 k9 T6 T7 T8 hb9 p9 r9
    go_wp2
    go_ret
    exact HP.out
  · have hE : allR xs = [] := allR_not ho
    have HP := Lib.hid (fun (w1 : World) (hb : Below w.heap.size w w1) => show SSP ((allR xs).take lim) (halfR xs) w (.returned (.slice none 0 0)) w1 by
      rw [hE, List.take_nil]; exact ⟨none, 0, rfl, ss_nil _ _ _ _, hb⟩)
    rw [okRB_not ho] at HOk
    clear hx hn hrow hB hE ho
    go_enter Tryd.func33, Tryd.ntmps33
    go_wp2_with fail
    have T0 := HT.out
    refine (HOk.out _ T0.1).mono ?_
    rintro e w1 ⟨rfl, hb1⟩
    have T1 := T0.on hb1
    clear T0 HT hb1 HOk
    go_wp2
    go_ret
    exact HP.out _ T1.1
end Go.Proofs.YtmaghekcpopepaaDoor.Ext
