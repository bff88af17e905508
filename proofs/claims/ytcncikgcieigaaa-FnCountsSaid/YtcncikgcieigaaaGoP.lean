/- One cell gone past, pure: what the maps before and behind it say; the boxes and blocks of the walk: no program's walk here. -/
import Derived.Test.YtcncikgcieigaaaProF
namespace Go.Proofs.Ytcncikgcieigaaa.Prof
set_option linter.unusedVariables false
set_option linter.unusedSimpArgs false
open Go.RowKit Go.Proofs.Ytcncikgcieigaaa.Base Go.Proofs.Ytcncikgcieigaaa.Pure Go.Proofs.Ytcncikgcieigaaa.Cell Go.Proofs.Ytcncikgcieigaaa.Reg Go.Proofs.Ytcncikgcieigaaa.Cnt Go.Joins
open Go.Maps (Keyed)

/-- what is done of a map: the numbers at the keys that are no longer to come. -/
def dn (D : DataW Unit) (left : Lit → Bool) (i : Nat) : Int := if left (kI i) = true then 0 else vw D i
/-- the keys that are still to come. -/
def LK (left : Lit → Bool) (g : Nat → Bool) (k q : Nat) : Prop := ∀ kl, left kl = true → ∃ i, i < 256 * (q + 1) ∧ kl = kI i ∧ Vd g k (i % 256)
/-- a profile is under way: e ways of its number c are still to be laid into the map behind. -/
def PS (g : Nat → Bool) (fr : Bool) (k q : Nat) (Db : DataW Unit) (left : Lit → Bool) (Da : DataW Unit) (c : Int) (E : Nat → Nat) : Prop :=
  KD Da g (k + 1) (q + 1) ∧ ∀ N, D (sumV g fr N (63 - k + 1) k (dn Db left)) (sumV g fr N (63 - k) (k + 1) (vw Da) + c * (E N : Int))
def LS (g : Nat → Bool) (fr : Bool) (k q : Nat) (Db : DataW Unit) (left : Lit → Bool) (Da : DataW Unit) : Prop := LK left g k q ∧ PS g fr k q Db left Da 0 (fun _ => 0)
/-- one cell is gone past. -/
def GoR (g : Nat → Bool) (fr : Bool) (k q : Nat) (Db Da : DataW Unit) : Prop := KD Da g (k + 1) (q + 1) ∧ ∀ N, D (sumV g fr N (63 - k + 1) k (vw Db)) (sumV g fr N (63 - k) (k + 1) (vw Da))
section
variable {g : Nat → Bool} {fr : Bool} {k q : Nat} {Db Da : DataW Unit} {left : Lit → Bool} {c : Int} {E : Nat → Nat}
theorem LS.start (h : KD Db g k q) : LS g fr k q Db (Maps.has Db) (.map []) := by
  refine ⟨h, KD.none, fun N => ?_⟩
  have e : ∀ i, dn Db (Maps.has Db) i = 0 := fun i => by
    unfold dn
    by_cases p : Maps.has Db (kI i) = true
    · exact if_pos p
    · rw [if_neg p]; exact at2_not (by simpa using p)
  rw [sumV_congr (b := fun _ => 0) (fun i _ => e i), sumV_congr (a := vw (.map [])) (b := fun _ => 0) (fun i _ => vw_none i)]
  unfold sumV
  rw [si_zero (fun i _ => Int.zero_mul _), si_zero (fun i _ => Int.zero_mul _)]
  simp only [Int.zero_mul, Int.add_zero]
  exact D.refl 0
theorem LS.next (h : LS g fr k q Db left Da) (hq : q ≤ 63) {i : Nat} (hi : i < 256 * (q + 1)) (hl : left (kI i) = true) (hat : Db.atKey (kI i) (.lit (.int .i64 0)) = .lit (.int .i64 c)) :
    LK (fun z => left z && !z.sameKey (kI i)) g k q ∧ PS g fr k q Db (fun z => left z && !z.sameKey (kI i)) Da c (fun N => V g fr N (63 - k + 1) k (i % 256) (i / 256)) := by
  obtain ⟨h1, h2, h3⟩ := h
  refine ⟨fun kl hk => h1 kl (by simp only [Bool.and_eq_true] at hk; exact hk.1), h2, fun N => ?_⟩
  have h3 := h3 N
  rw [Int.zero_mul, Int.add_zero] at h3
  have e : ∀ j, j < 16640 → dn Db (fun z => left z && !z.sameKey (kI i)) j = upd (dn Db left) i c j := fun j hj => by
    have hs := same_kI (i := j) (j := i) (by omega) (by omega)
    by_cases p : j = i
    · subst p
      rw [upd_at]; unfold dn
      simp only [hs, decide_true, Bool.not_true, Bool.and_false]
      exact at2_of hat
    · rw [upd_ne p]; unfold dn
      simp [hs, p]
  rw [sumV_congr e, sumV_set (by omega) (by unfold dn; exact if_pos hl)]
  exact h3.add (D.refl _)
theorem PS.raise {t : Nat} (h : PS g fr k q Db left Da c (fun N => V g fr N (63 - k) (k + 1) (t % 256) (t / 256) + E N)) (hD : Maps.IsMap Da) (hq : q ≤ 63) (ht : t < 256 * (q + 2)) (hv : Vd g (k + 1) (t % 256)) :
    PS g fr k q Db left (Da.put (kI t) (.lit (.int .i64 (wrap64 (vw Da t + c))))) c E := by
  obtain ⟨h2, h3⟩ := h
  refine ⟨h2.put hD (by omega) hv _, fun N => ?_⟩
  rw [sumV_congr (fun i hi => vw_put hD (t := t) (by omega) _ (by omega))]
  refine (h3 N).trans ?_
  rw [Int.natCast_add, Int.mul_add, ← Int.add_assoc]
  exact (sumV_add (D.refl _) (by omega)).add (D.refl _)
theorem PS.same {E' : Nat → Nat} (h : PS g fr k q Db left Da c E) (e : ∀ N, E N = E' N) : PS g fr k q Db left Da c E' := by
  have : E = E' := funext e
  rw [← this]; exact h
theorem PS.done (h : PS g fr k q Db left Da c (fun _ => 0)) (hl : LK left g k q) : LS g fr k q Db left Da := ⟨hl, h.1, fun N => by
  have := h.2 N
  simpa using this⟩
theorem LS.done (h : LS g fr k q Db left Da) (hl : ∀ kl, left kl = false) : GoR g fr k q Db Da := ⟨h.2.1, fun N => by
  have := h.2.2 N
  rw [Int.zero_mul, Int.add_zero] at this
  rw [sumV_congr (b := vw Db) (fun i _ => by unfold dn; rw [hl]; simp)] at this
  exact this⟩
end
/-- the boxes of the region and of the cell. -/
def BxG (w : World) (v : Value) (x y : Nat) (W : World) : Prop := Below w.heap.size w W ∧ w.heap.size + 2 ≤ W.heap.size ∧ W.cell? ⟨w.heap.size, 0, none⟩ = some v ∧ W.cell? ⟨w.heap.size + 1, 0, none⟩ = some (.int .i64 (x : Int)) ∧ W.cell? ⟨w.heap.size + 1, 1, none⟩ = some (.int .i64 (y : Int))
section
variable {w W W' : World} {v : Value} {x y m m2 r p : Nat} {Db Da : DataW Unit} {left : Lit → Bool} {cnt : Nat}
theorem BxG.grown {row : Option Nat} (h : BxG w v x y W) (hg : W.grownBy W' row) (hr : ∀ j, row = some j → w.heap.size + 2 ≤ j) : BxG w v x y W' := by
  obtain ⟨h0, h1, h2, h3, h4⟩ := h
  have hne : ∀ j, j < w.heap.size + 2 → some j ≠ row := fun j hj e => by have := hr j e.symm; omega
  have hz := hg.size
  refine ⟨h0.grown hg (by omega) (fun j e => by have := hr j e; omega), by omega, ?_, ?_, ?_⟩
  · exact (World.cell?_of_block (hg.block w.heap.size (by omega) (hne _ (by omega)))).trans h2
  · exact (World.cell?_of_block (hg.block (w.heap.size + 1) (by omega) (hne _ (by omega)))).trans h3
  · exact (World.cell?_of_block (hg.block (w.heap.size + 1) (by omega) (hne _ (by omega)))).trans h4
theorem grown_of (hb : Below W.heap.size W W') : W.grownBy W' none := ⟨hb.os, hb.tape, hb.output, hb.size, fun k hk _ => hb.block k hk⟩
theorem BxG.on (h : BxG w v x y W) (hb : Below W.heap.size W W') : BxG w v x y W' := h.grown (grown_of hb) (fun j e => by cases e)
theorem bxG_start (w : World) (v : Value) (x y : Nat) (T T' : TypeId) : BxG w v x y ((w.alloc (.cells #[v] T)).alloc (.cells #[.int .i64 (x : Int), .int .i64 (y : Int)] T')) := by
  have e0 : (w.alloc (.cells #[v] T)).heap.size = w.heap.size + 1 := by simp
  have h1 := heap_alloc_new (w.alloc (.cells #[v] T)) (.cells #[.int .i64 (x : Int), .int .i64 (y : Int)] T')
  rw [e0] at h1
  have h0 : ((w.alloc (.cells #[v] T)).alloc (.cells #[.int .i64 (x : Int), .int .i64 (y : Int)] T')).heap[w.heap.size]? = some (.cells #[v] T) :=
    ((below_alloc1 (w.alloc (.cells #[v] T)) _).block w.heap.size (by rw [e0]; omega)).trans (heap_alloc_new w _)
  exact ⟨below_alloc2 w _ _, by simp, (cellAt h0 0).1.trans rfl, (cellAt h1 0).1.trans rfl, (cellAt h1 1).1.trans rfl⟩
/-- the loop under way: the boxes, the map that is walked, the map behind. -/
def WL (w : World) (v : Value) (x y m m2 r : Nat) (Db : DataW Unit) (left : Lit → Bool) (cnt : Nat) (Da : DataW Unit) (W : World) : Prop :=
  BxG w v x y W ∧ W.ranges Try.prog 56 RE m r 20000 Db left cnt ∧ Own W m2 Da ∧ m < w.heap.size ∧ w.heap.size + 2 ≤ m2 ∧ m2 < r
theorem WL.on (h : WL w v x y m m2 r Db left cnt Da W) (hb : Below W.heap.size W W') : WL w v x y m m2 r Db left cnt Da W' := by
  obtain ⟨h1, h2, h3, h4, h5, h6⟩ := h
  exact ⟨h1.on hb, h2.kept (grown_of hb) (by simp) (by simp), h3.on hb, h4, h5, h6⟩
theorem WL.rlt (h : WL w v x y m m2 r Db left cnt Da W) : r < W.heap.size := h.2.1.lt
theorem WL.raised {Da' : DataW Unit} (h : WL w v x y m m2 r Db left cnt Da W) (hg : W.grownBy W' (some m2)) (ho : Own W' m2 Da') : WL w v x y m m2 r Db left cnt Da' W' := by
  obtain ⟨h1, h2, h3, h4, h5, h6⟩ := h
  exact ⟨h1.grown hg (fun j e => by cases e; exact h5), h2.kept hg (fun e => by have := Option.some.inj e; omega) (fun e => by have := Option.some.inj e; omega), ho, h4, h5, h6⟩
theorem WL.step {left' : Lit → Bool} {cnt' : Nat} (h : WL w v x y m m2 r Db left cnt Da W) (hg : W.grownBy W' (some r)) (hr : W'.ranges Try.prog 56 RE m r 20000 Db left' cnt') : WL w v x y m m2 r Db left' cnt' Da W' := by
  obtain ⟨h1, h2, h3, h4, h5, h6⟩ := h
  exact ⟨h1.grown hg (fun j e => by cases e; omega), hr, World.ownsMap.kept h3 hg (fun e => by have := Option.some.inj e; omega), h4, h5, h6⟩
/-- .. and a profile's box. -/
def WP (w : World) (v : Value) (x y m m2 r : Nat) (Db : DataW Unit) (left : Lit → Bool) (cnt : Nat) (p : Nat) (s d : Nat) (Da : DataW Unit) (W : World) : Prop :=
  WL w v x y m m2 r Db left cnt Da W ∧ r < p ∧ W.heap[p]? = some (.cells #[.int .i64 (s : Int), .int .i64 (d : Int)] 56)
variable {s d : Nat}
theorem WP.on (h : WP w v x y m m2 r Db left cnt p s d Da W) (hb : Below W.heap.size W W') : WP w v x y m m2 r Db left cnt p s d Da W' :=
  ⟨h.1.on hb, h.2.1, (hb.block p (Array.getElem?_eq_some_iff.1 h.2.2).1).trans h.2.2⟩
theorem WP.drew (h : WP w v x y m m2 r Db left cnt p s d Da W) : WP w v x y m m2 r Db left cnt p s d Da W.drew := h.on (drewN_below (Below.refl _ _) 1)
theorem WP.raised {Da' : DataW Unit} (h : WP w v x y m m2 r Db left cnt p s d Da W) (hg : W.grownBy W' (some m2)) (ho : Own W' m2 Da') : WP w v x y m m2 r Db left cnt p s d Da' W' :=
  ⟨h.1.raised hg ho, h.2.1, (hg.block p (Array.getElem?_eq_some_iff.1 h.2.2).1 (fun e => by have := Option.some.inj e; have := h.1.2.2.2.2.2; have := h.2.1; omega)).trans h.2.2⟩
theorem wp_start (h : WL w v x y m m2 r Db left cnt Da W) : WP w v x y m m2 r Db left cnt W.heap.size s d Da (W.alloc (.cells #[.int .i64 (s : Int), .int .i64 (d : Int)] 56)) :=
  ⟨h.on (below_alloc1 W _), h.rlt, heap_alloc_new W _⟩
/-- what a region of the round reads. -/
theorem WP.reads (h : WP w v x y m m2 r Db left cnt p s d Da W) : W.cell? ⟨p, 0, none⟩ = some (.int .i64 (s : Int)) ∧ W.cell? ⟨p, 1, none⟩ = some (.int .i64 (d : Int)) ∧ W.cell? ⟨w.heap.size + 1, 0, none⟩ = some (.int .i64 (x : Int)) :=
  ⟨(cellAt h.2.2 0).1.trans rfl, (cellAt h.2.2 1).1.trans rfl, h.1.1.2.2.2.1⟩
/-- .. also while an entry is made. -/
theorem WP.keeps (h : WP w v x y m m2 r Db left cnt p s d Da W) (hg : W.grownBy W' (some m2)) : W'.cell? ⟨p, 0, none⟩ = some (.int .i64 (s : Int)) ∧ W'.cell? ⟨p, 1, none⟩ = some (.int .i64 (d : Int)) ∧ W'.cell? ⟨w.heap.size + 1, 0, none⟩ = some (.int .i64 (x : Int)) := by
  have hb := h.1.1.grown hg (fun j e => by cases e; exact h.1.2.2.2.2.1)
  have hp : W'.heap[p]? = some (.cells #[.int .i64 (s : Int), .int .i64 (d : Int)] 56) :=
    (hg.block p (Array.getElem?_eq_some_iff.1 h.2.2).1 (fun e => by have := Option.some.inj e; have := h.1.2.2.2.2.2; have := h.2.1; omega)).trans h.2.2
  exact ⟨(cellAt hp 0).1.trans rfl, (cellAt hp 1).1.trans rfl, hb.2.2.2.1⟩
end
/-- the index of a profile. -/
def ix (s d : Nat) : Nat := s + 256 * d
theorem ix_mod {s d : Nat} (h : s < 256) : ix s d % 256 = s := by unfold ix; omega
theorem ix_div {s d : Nat} (h : s < 256) : ix s d / 256 = d := by unfold ix; omega
theorem ix_at (i : Nat) : ix (i % 256) (i / 256) = i := by unfold ix; omega
theorem PS.raise2 {g : Nat → Bool} {fr : Bool} {k q s d : Nat} {Db Da : DataW Unit} {left : Lit → Bool} {c : Int} {E : Nat → Nat} (h : PS g fr k q Db left Da c (fun N => V g fr N (63 - k) (k + 1) s d + E N)) (hD : Maps.IsMap Da) (hq : q ≤ 63) (hs : s < 256) (hd : d < q + 2) (hv : Vd g (k + 1) s) :
    PS g fr k q Db left (Da.put (kI (ix s d)) (.lit (.int .i64 (wrap64 (vw Da (ix s d) + c))))) c E :=
  PS.raise (t := ix s d) (by rw [ix_mod hs, ix_div hs]; exact h) hD hq (by unfold ix; omega) (by rw [ix_mod hs]; exact hv)
/-- an entry raised: the facts for the region, in one. -/
def Ra (W : World) (m2 s d : Nat) (c : Int) (Da : DataW Unit) (st : Nat) (W1 W2 : World) (a : Int) : Prop :=
  (Instr.lookup 53 (.map (some m2)) (.agg #[.int .i64 (s : Int), .int .i64 (d : Int)]) false).run Try.prog W = .ok (.int .i64 a) W ∧
  (Instr.mapEntry 53 (.map (some m2)) (.agg #[.int .i64 (s : Int), .int .i64 (d : Int)])).run Try.prog W = .ok (.tuple #[.int .i64 a, .int .i64 (st : Int)]) W1 ∧
  (Instr.lookup 53 (.map (some m2)) (.agg #[.int .i64 (s : Int), .int .i64 (d : Int)]) false).run Try.prog W1 = .ok (.int .i64 a) W1 ∧
  W.grownBy W1 (some m2) ∧ (Instr.entryStore 53 (.map (some m2)) (.int .i64 (st : Int)) (.int .i64 (IntKind.i64.wrap (a + c)))).run Try.prog W1 = .ok () W2 ∧
  W.grownBy W2 (some m2) ∧ W2.ownsMap Try.prog 56 RE m2 20001 (Da.put (kI (ix s d)) (.lit (.int .i64 (wrap64 (vw Da (ix s d) + c)))))
theorem ra_of {W : World} {m2 s d : Nat} {c : Int} {Da : DataW Unit} (h : Own W m2 Da) (hs : s < 256) (hd : d < 70) : ∃ st W1 W2 a, Ra W m2 s d c Da st W1 W2 a := by
  have hk := keyI (i := ix s d) (by unfold ix; omega)
  rw [ix_mod hs, ix_div hs] at hk
  obtain ⟨st, W1, h1, h2, h3, h4, h5, _, h6⟩ := own_raise h hk
  obtain ⟨W2, h7, h8, h9, _⟩ := h6 (wrap64 (vw Da (ix s d) + c)) (wrap64_wf _)
  refine ⟨st, W1, W2, _, h2, h3, h4, h5, ?_, h9, h8⟩
  rw [wrap_is]; exact h7
/-- .. behind it. -/
theorem WP.up {w W W' W2 : World} {v : Value} {x y m m2 r p s d : Nat} {Db Da : DataW Unit} {left : Lit → Bool} {cnt : Nat} {g : Nat → Bool} {fr : Bool} {k q s' d' st : Nat} {c a : Int} {E : Nat → Nat}
    (h : WP w v x y m m2 r Db left cnt p s d Da W) (hr : Ra W m2 s' d' c Da st W' W2 a) (hp : PS g fr k q Db left Da c (fun N => V g fr N (63 - k) (k + 1) s' d' + E N)) (hq : q ≤ 63) (hs : s' < 256) (hd : d' < q + 2) (hv : Vd g (k + 1) s') :
    ∃ Da', WP w v x y m m2 r Db left cnt p s d Da' W2 ∧ PS g fr k q Db left Da' c E := by
  have hp' := hp.raise2 h.1.2.2.1.isMap hq hs hd hv
  exact ⟨_, h.raised hr.2.2.2.2.2.1 (own_bound hr.2.2.2.2.2.2 hp'.1 (by omega)), hp'⟩
end Go.Proofs.Ytcncikgcieigaaa.Prof
