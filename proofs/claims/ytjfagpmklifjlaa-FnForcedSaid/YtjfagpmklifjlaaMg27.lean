/- CmpI in one text. -/
import Derived.Test.YtjfagpmklifjlaaMg26
import Derived.Test.YtjfagpmklifjlaaMg18
import Derived.Lib.SliceRun
import Derived.Deep.RegionHeld3

namespace Go.Proofs.Ytjfagpmklifjlaa.Cmp
set_option linter.unusedVariables false
set_option linter.unusedSimpArgs false
open Go.RowKit Go.Proofs.Ytjfagpmklifjlaa.Dms Go.Joins

set_option maxHeartbeats 1000000 in
theorem eqC_run {x y : Int} {b : Bool} {u v : Int} {c : Bool} (hne : ¬ (x = u ∧ y = v ∧ b = c)) (a : Act) (o : Oper) (t1 t2 : Operand) (w' : World)
  (ho : o.op = .binOp .eql 41 t1 t2 41) (h1 : a.eval t1 = .agg #[.int .i64 x, .int .i64 y, .bool b]) (h2 : a.eval t2 = .agg #[.int .i64 u, .int .i64 v, .bool c]) :
  (execOp a.eval o).run Try.prog w' = .ok (.value (.bool false)) w' := by
 unfold execOp
 rw [ho]
 simp only [h1, h2]
 by_cases hxu : x = u
 ·subst hxu
  by_cases hyv : y = v
  ·subst hyv
   cases b <;> cases c
   ·exact absurd ⟨rfl, rfl, rfl⟩ hne
   ·clear hne ho h1 h2; go_simp
   ·clear hne ho h1 h2; go_simp
   ·exact absurd ⟨rfl, rfl, rfl⟩ hne
  ·clear hne ho h1 h2; go_simp
 ·clear hne ho h1 h2; go_simp

set_option maxHeartbeats 1000000 in
theorem neC_run {x y : Int} {b : Bool} {u v : Int} {c : Bool} (hne : ¬ (x = u ∧ y = v ∧ b = c)) (a : Act) (o : Oper) (t1 t2 : Operand) (w' : World)
  (ho : o.op = .binOp .neq 41 t1 t2 41) (h1 : a.eval t1 = .agg #[.int .i64 x, .int .i64 y, .bool b]) (h2 : a.eval t2 = .agg #[.int .i64 u, .int .i64 v, .bool c]) :
  (execOp a.eval o).run Try.prog w' = .ok (.value (.bool true)) w' := by
 unfold execOp
 rw [ho]
 simp only [h1, h2]
 by_cases hxu : x = u
 ·subst hxu
  by_cases hyv : y = v
  ·subst hyv
   cases b <;> cases c
   ·exact absurd ⟨rfl, rfl, rfl⟩ hne
   ·clear hne ho h1 h2; go_simp
   ·clear hne ho h1 h2; go_simp
   ·exact absurd ⟨rfl, rfl, rfl⟩ hne
  ·clear hne ho h1 h2; go_simp
 ·clear hne ho h1 h2; go_simp

theorem own_cut {w : World} {base e g n cap k : Nat} {xs : List Value} (h : w.ownsRow base e 3 (.slice (some ⟨g, 0, none⟩) n cap) n xs) (hk : k ≤ n) : w.ownsRow base e 3 (.slice (some ⟨g, 0, none⟩) k cap) k (xs.take (k * 3)) := by
 obtain ⟨h1, h2⟩ := h
 refine ⟨by rw [List.length_take, h1]; omega, ?_⟩
 rcases h2 with ⟨h2, _⟩ | ⟨g', cap', cur, hv, a, b, c, d, e1, f⟩
 ·cases h2
 ·injection hv with p1 _ p3
  injection p1 with p1
  injection p1 with p1
  subst p1; subst p3
  exact .inr ⟨g, cap, cur, rfl, a, b, by omega, d, e1, by rw [← f, List.take_take, Nat.min_eq_left (by omega)]⟩
theorem own_setCells {base e g k cap : Nat} {xs : List Value} : ∀ (vs : List Value) (o : Nat) (w : World), w.ownsRow base e 3 (.slice (some ⟨g, 0, none⟩) k cap) k xs → k * 3 ≤ o → (w.setCells g o vs).ownsRow base e 3 (.slice (some ⟨g, 0, none⟩) k cap) k xs
 | [], _, _, h, _ => h
 | v :: r, o, w, h, ho => by
  rw [World.setCells]
  refine own_setCells r (o + 1) _ ?_ (by omega)
  have := (h.stored o v).1
  rwa [List.set_eq_of_length_le (by rw [h.1]; omega)] at this
theorem grown_setCells {g : Nat} : ∀ (vs : List Value) (o : Nat) (w : World), w.grownBy (w.setCells g o vs) (some g)
 | [], _, w => ⟨rfl, rfl, rfl, Nat.le_refl _, fun _ _ _ => rfl⟩
 | v :: r, o, w => by
  rw [World.setCells]
  have h := grown_setCells (g := g) r (o + 1) (w.setCell ⟨g, o, none⟩ v)
  refine ⟨h.os, h.tape, h.output, Nat.le_trans (Nat.le_of_eq (by simp [World.setCell])) h.size, fun k hk hne => ?_⟩
  rw [h.block k (by simpa [World.setCell] using hk) hne]
  exact Below.heap_setCell w ⟨g, o, none⟩ v k (by intro e; exact hne (by rw [e]))
theorem grown_trans {a b c : World} {g : Nat} (h : a.grownBy b (some g)) (k : b.grownBy c (some g)) : a.grownBy c (some g) :=
 ⟨k.os.trans h.os, k.tape.trans h.tape, k.output.trans h.output, Nat.le_trans h.size k.size, fun j hj hne => (k.block j (Nat.lt_of_lt_of_le hj h.size) hne).trans (h.block j hj hne)⟩
theorem zero_len (n : Nat) : (Builtin.zeroCells #[.int .i64 0, .int .i64 0, .bool false] n).toList.length = n * 3 := by simp [Builtin.zeroCells]
theorem zero_cell (n : Nat) : ∀ v ∈ (Builtin.zeroCells #[.int .i64 0, .int .i64 0, .bool false] n).toList, v.oneCell' = true := by
 intro v hv
 simp only [Builtin.zeroCells, Array.toList_map, Array.toList_range, List.mem_map, List.mem_range] at hv
 obtain ⟨i, hi, rfl⟩ := hv
 have h3 : i % 3 = 0 ∨ i % 3 = 1 ∨ i % 3 = 2 := by omega
 rcases h3 with h | h | h <;> (simp only [List.size_toArray, List.length_cons, List.length_nil, Nat.zero_add, Nat.reduceAdd, h]; rfl)
theorem run_clear (w : World) (ty : TypeId) (g o n c : Nat) (hn : 0 < n) (hc : ∀ j, j < n * 3 → (w.cell? ⟨g, o + j, none⟩).isSome = true) (hf : ∀ j, j < n * 3 → w.frozen? ⟨g, o + j, none⟩ = false) :
  (Builtin.clear_ #[28] ty #[.slice (some ⟨g, o, none⟩) n c]).run Try.prog w = .ok (.tuple #[]) (w.setCells g o (Builtin.zeroCells #[.int .i64 0, .int .i64 0, .bool false] n).toList) := by
 have hst := run_storeCells_cells (P := Try.prog) g o (Builtin.zeroCells #[.int .i64 0, .int .i64 0, .bool false] n).toList 0 w (by rw [zero_len]; simpa using hc) (by rw [zero_len]; simpa using hf) (zero_cell n)
 simp only [Nat.add_zero] at hst
 obtain ⟨m, rfl⟩ : ∃ m, n = m + 1 := ⟨n - 1, by omega⟩
 simp [Builtin.clear_, run_underlying Try.underlying28, Try.zeroValue41, Value.cells, hst]

theorem own_at {w : World} {base g n cap : Nat} {R : List Dm} (h : w.ownsRow base 41 3 (.slice (some ⟨g, 0, none⟩) n cap) n (rowM R)) {j : Nat} {d : Dm} (hd : R[j]? = some d) (q : Nat) (hq : q = j * 3) :
  w.cell? ⟨g, q, none⟩ = some (.int .i64 d.1) ∧ w.cell? ⟨g, q + 1, none⟩ = some (.int .i64 d.2.1) ∧ w.cell? ⟨g, q + 2, none⟩ = some (.bool d.2.2) := by
 subst hq
 obtain ⟨h1, h2, h3⟩ := rowM_at R j d hd
 have hl := h.1
 have hlen := rowM_length R
 have hj := (List.getElem?_eq_some_iff.1 hd).1
 exact ⟨(h.cellAt _ (by omega)).trans h1, (h.cellAt _ (by omega)).trans h2, (h.cellAt _ (by omega)).trans h3⟩
theorem own_put {w : World} {base g n cap : Nat} {R : List Dm} (h : w.ownsRow base 41 3 (.slice (some ⟨g, 0, none⟩) n cap) n (rowM R)) {C D : List Dm} {p q : Dm} (hR : R = C ++ p :: D) :
  (((w.setCell ⟨g, C.length * 3, none⟩ (.int .i64 q.1)).setCell ⟨g, C.length * 3 + 1, none⟩ (.int .i64 q.2.1)).setCell ⟨g, C.length * 3 + 2, none⟩ (.bool q.2.2)).ownsRow base 41 3 (.slice (some ⟨g, 0, none⟩) n cap) n (rowM (C ++ q :: D)) := by
 subst hR
 obtain ⟨h, _⟩ := h.stored (C.length * 3) (.int .i64 q.1)
 obtain ⟨h, _⟩ := h.stored (C.length * 3 + 1) (.int .i64 q.2.1)
 obtain ⟨h, _⟩ := h.stored (C.length * 3 + 2) (.bool q.2.2)
 rwa [rowM_put C p q D C.length rfl] at h
theorem grown_put {w : World} {g : Nat} (o : Nat) (v : Value) : w.grownBy (w.setCell ⟨g, o, none⟩ v) (some g) :=
 ⟨rfl, rfl, rfl, by simp [World.setCell], fun k hk hne => Below.heap_setCell w ⟨g, o, none⟩ v k (by intro e; exact hne (by rw [e]))⟩
theorem grown_drew {w W : World} {g : Nat} (h : w.grownBy W (some g)) : w.grownBy W.drew (some g) := ⟨h.os, h.tape, h.output, h.size, h.block⟩

set_option maxRecDepth 100000 in
set_option maxHeartbeats 4000000 in
theorem compactCall (w : World) (base g n cap : Nat) (M : List Dm) (hnb : n ≤ 2000000) (hown : w.ownsRow base 41 3 (.slice (some ⟨g, 0, none⟩) n cap) n (rowM M)) :
  Calls Try.prog 101 #[.slice (some ⟨g, 0, none⟩) n cap] w fun e w' =>
   ∃ m : Nat, e = .returned (.slice (some ⟨g, 0, none⟩) m cap) ∧ m = (cmpT M n).length ∧ w'.ownsRow base 41 3 (.slice (some ⟨g, 0, none⟩) m cap) m (rowM (cmpT M n)) ∧ w.grownBy w' (some g) := by
 have hlen : M.length = n := by have := hown.1; rw [rowM_length] at this; omega
 have hcap : n ≤ cap := by
  rcases hown.2 with ⟨h, _⟩ | ⟨g', cap', cur, h, hg, hh, h1, h2, h3, _⟩
  ·cases h
  ·injection h with ha _ hc
   subst hc; exact h1
 have HL := Lib.hid hlen
 have HQ := Lib.hid hown
 have HG0 : w.grownBy w (some g) := World.grownBy.refl w _
 by_cases h2 : n < 2
 ·have HE := Lib.hid (show cmpT M n = M by
   rw [cmpT_all (by omega) (fun i h0 hi hm => by omega), ← hlen, List.take_length])
  have h3 : (n : Int) < 2 := by omega
  clear hown hlen
  go_enter Try.func101, Try.ntmps101
  go_wp2
  go_ret
  exact ⟨n, rfl, by rw [HE.out]; exact HL.out.symm, by rw [HE.out]; exact HQ.out, HG0⟩
 ·have h3 : ¬ (n : Int) < 2 := by omega
  clear hown hlen
  go_enter Try.func101, Try.ntmps101
  go_wp2_with fail
  go_loopw [3] (fun i wr => ∃ k q : Nat, 1 ≤ k ∧ k ≤ n ∧ i = .int .i64 k ∧ wr = w.drewN q ∧ Hid (cmpT M k = M.take k)) (fun i _ => n - (intOf i).toNat)
  case atStart => exact ⟨1, 0, Nat.le_refl _, by omega, rfl, rfl, Lib.hid (cmpT_all (by have := HL.out; omega) (fun i h0 hi hm => by omega))⟩
  case round =>
   obtain ⟨k, q, hk1, hk, rfl, rfl, hA⟩ := hrel
   by_cases hlt : k < n
   ·have hkl : k < M.length := by have := HL.out; omega
    obtain ⟨kp, hkp⟩ : ∃ kp, k = kp + 1 := ⟨k - 1, by omega⟩
    have hpl : kp < M.length := by omega
    have h1 := fun (W : World) (h : W.ownsRow base 41 3 (.slice (some ⟨g, 0, none⟩) n cap) n (rowM M)) => own_at h (List.getElem?_eq_getElem hkl) (k * 3) rfl
    have h0 := fun (W : World) (h : W.ownsRow base 41 3 (.slice (some ⟨g, 0, none⟩) n cap) n (rowM M)) => own_at h (List.getElem?_eq_getElem hpl) (kp * 3) rfl
    have hkeep := fun h => cmpT_keep hkl (.inr h)
    have hskip := cmpT_skip (M := M) hkl (by omega)
    simp only [show k - 1 = kp by omega] at hkeep hskip
    have HD := Lib.hid (show M[k]? = some M[k] from List.getElem?_eq_getElem hkl)
    have HTk := Lib.hid (show M.take (k + 1) = M.take k ++ [M[k]] from List.take_succ_eq_append_getElem hkl)
    generalize M[k] = d at h1 hkeep hskip HD HTk
    generalize M[kp] = p at h0 hkeep hskip
    obtain ⟨x, y, b⟩ := d
    obtain ⟨u, v, c⟩ := p
    obtain ⟨c0, c1, c2⟩ := h1 _ HQ.out
    obtain ⟨d0, d1, d2⟩ := h0 _ HQ.out
    simp only at c0 c1 c2 d0 d1 d2
    have hwr : IntKind.i64.wrap ((k : Int) - 1) = (kp : Int) := by rw [IntKind.wrap_i64]; omega
    have hkpn : (kp : Int) < (n : Int) := by omega
    have HKP := Lib.hid hkp
    clear h1 h0 hkp
    by_cases he : x = u ∧ y = v ∧ b = c
    ·obtain ⟨rfl, rfl, rfl⟩ := he
     have HS := Lib.hid (hskip rfl)
     clear hskip hkeep
     go_upto_region 6 with fail
     refine wp_region_noPanic ?_
     refine wp_region_held_drew (S := (fun w' => w'.cell? ⟨g, k * 3, none⟩ = some (.int .i64 x) ∧ w'.cell? ⟨g, k * 3 + 1, none⟩ = some (.int .i64 y) ∧ w'.cell? ⟨g, k * 3 + 2, none⟩ = some (.bool b) ∧ w'.cell? ⟨g, kp * 3, none⟩ = some (.int .i64 x) ∧ w'.cell? ⟨g, kp * 3 + 1, none⟩ = some (.int .i64 y) ∧ w'.cell? ⟨g, kp * 3 + 2, none⟩ = some (.bool b))) (by kernel_rfl) (⟨c0, c1, c2, d0, d1, d2⟩) (fun hHeld => ?_)
     refine wpAnyH_take (i := 0) (v := ?_) rfl (by kernel_rfl) (by kernel_rfl) (by kernel_rfl) (fun _ _ _ h => h) (Or.inl ⟨(by as_aux_lemma => kernel_rfl), ?_⟩) (by assumption) ?_
     rotate_left
     ·(intro w' hS; (try dsimp only at hS); go_simp; try with_reducible rfl)
     try simp only [Act.put, List.getElem_toArray, List.getElem_cons_succ, List.getElem_cons_zero, List.setIfInBounds_toArray, List.set_cons_zero, List.set_cons_succ]
     refine wpAnyH_take (i := 1) (v := ?_) rfl (by kernel_rfl) (by kernel_rfl) (by kernel_rfl) (fun _ _ _ h => h) (Or.inl ⟨(by as_aux_lemma => kernel_rfl), ?_⟩) (by assumption) ?_
     rotate_left
     ·(intro w' hS; (try dsimp only at hS); go_simp; try with_reducible rfl)
     try simp only [Act.put, List.getElem_toArray, List.getElem_cons_succ, List.getElem_cons_zero, List.setIfInBounds_toArray, List.set_cons_zero, List.set_cons_succ]
     refine wpAnyH_take (i := 2) (v := ?_) rfl (by kernel_rfl) (by kernel_rfl) (by kernel_rfl) (fun _ _ _ h => h) (Or.inl ⟨(by as_aux_lemma => kernel_rfl), ?_⟩) (by assumption) ?_
     rotate_left
     ·(intro w' hS; (try dsimp only at hS); go_simp; try with_reducible rfl)
     try simp only [Act.put, List.getElem_toArray, List.getElem_cons_succ, List.getElem_cons_zero, List.setIfInBounds_toArray, List.set_cons_zero, List.set_cons_succ]
     refine wpAnyH_take (i := 3) (v := ?_) rfl (by kernel_rfl) (by kernel_rfl) (by kernel_rfl) (fun _ _ _ h => h) (Or.inl ⟨(by as_aux_lemma => kernel_rfl), ?_⟩) (by assumption) ?_
     rotate_left
     ·(intro w' hS; (try dsimp only at hS); go_simp; try with_reducible rfl)
     try simp only [Act.put, List.getElem_toArray, List.getElem_cons_succ, List.getElem_cons_zero, List.setIfInBounds_toArray, List.set_cons_zero, List.set_cons_succ]
     refine wpAnyH_take (i := 4) (v := ?_) rfl (by kernel_rfl) (by kernel_rfl) (by kernel_rfl) (fun _ _ _ h => h) (Or.inl ⟨(by as_aux_lemma => kernel_rfl), ?_⟩) (by assumption) ?_
     rotate_left
     ·(intro w' hS; (try dsimp only at hS); go_simp; try with_reducible rfl)
     try simp only [Act.put, List.getElem_toArray, List.getElem_cons_succ, List.getElem_cons_zero, List.setIfInBounds_toArray, List.set_cons_zero, List.set_cons_succ]
     refine wpAnyH_take (i := 5) (v := ?_) rfl (by kernel_rfl) (by kernel_rfl) (by kernel_rfl) (fun _ _ _ h => h) (Or.inl ⟨(by as_aux_lemma => kernel_rfl), ?_⟩) (by assumption) ?_
     rotate_left
     ·(intro w' hS; (try dsimp only at hS); go_simp; try with_reducible rfl)
     try simp only [Act.put, List.getElem_toArray, List.getElem_cons_succ, List.getElem_cons_zero, List.setIfInBounds_toArray, List.set_cons_zero, List.set_cons_succ]
     refine wpAnyH_take (i := 6) (v := ?_) rfl (by kernel_rfl) (by kernel_rfl) (by kernel_rfl) (fun _ _ _ h => h) (Or.inl ⟨(by as_aux_lemma => kernel_rfl), ?_⟩) (by assumption) ?_
     rotate_left
     ·(intro w' hS; (try dsimp only at hS); go_simp; try with_reducible rfl)
     try simp only [Act.put, List.getElem_toArray, List.getElem_cons_succ, List.getElem_cons_zero, List.setIfInBounds_toArray, List.set_cons_zero, List.set_cons_succ]
     refine wpAnyH_take (i := 7) (v := ?_) rfl (by kernel_rfl) (by kernel_rfl) (by kernel_rfl) (fun _ _ _ h => h) (Or.inl ⟨(by as_aux_lemma => kernel_rfl), ?_⟩) (by assumption) ?_
     rotate_left
     ·(intro w' hS; (try dsimp only at hS); go_simp; try with_reducible rfl)
     try simp only [Act.put, List.getElem_toArray, List.getElem_cons_succ, List.getElem_cons_zero, List.setIfInBounds_toArray, List.set_cons_zero, List.set_cons_succ]
     refine wpAnyH_take (i := 8) (v := ?_) rfl (by kernel_rfl) (by kernel_rfl) (by kernel_rfl) (fun _ _ _ h => h) (Or.inl ⟨(by as_aux_lemma => kernel_rfl), ?_⟩) (by assumption) ?_
     rotate_left
     ·(intro w' hS; (try dsimp only at hS); go_simp; try with_reducible rfl)
     try simp only [Act.put, List.getElem_toArray, List.getElem_cons_succ, List.getElem_cons_zero, List.setIfInBounds_toArray, List.set_cons_zero, List.set_cons_succ]
     refine wpAnyH_take (i := 9) (v := ?_) rfl (by kernel_rfl) (by kernel_rfl) (by kernel_rfl) (fun _ _ _ h => h) (Or.inl ⟨(by as_aux_lemma => kernel_rfl), ?_⟩) (by assumption) ?_
     rotate_left
     ·(intro w' hS; (try dsimp only at hS); go_simp; try with_reducible rfl)
     try simp only [Act.put, List.getElem_toArray, List.getElem_cons_succ, List.getElem_cons_zero, List.setIfInBounds_toArray, List.set_cons_zero, List.set_cons_succ]
     refine wpAnyH_done (by kernel_rfl) ?_ _
     refine NoPanic.normal ?_
     clear hHeld hwr hkpn c0 c1 c2 d0 d1 d2
     have hcp : ¬ (cap = k) := by omega
     have hcp2 : (k : Int) ≤ (n : Int) := by omega
     have hcp3 : (n : Int) ≤ (cap : Int) := by omega
     have HO1 := Lib.hid (show (w.drewN q).drew.ownsRow base 41 3 (.slice (some ⟨g, 0, none⟩) n cap) n (rowM (cmpT M (k + 1) ++ M.drop k)) by
      rw [HS.out, hA.out, List.take_append_drop]; exact HQ.out)
     have HG1 : w.grownBy (w.drewN q).drew (some g) := ⟨rfl, rfl, rfl, Nat.le_refl _, fun _ _ _ => rfl⟩
     have HK1 := Lib.hid (show (cmpT M (k + 1)).length = k by rw [HS.out, hA.out, List.length_take]; omega)
     clear HS
     generalize (w.drewN q).drew = W1 at HO1 HG1 ⊢
     go_wp2_with fail
     go_loopw [3, 5] (fun a i wr => ∃ kk k2 : Nat, a = .int .i64 kk ∧ i = .int .i64 k2 ∧ 1 ≤ k2 ∧ k + k2 ≤ n ∧ kk + 1 ≤ k + k2 ∧ kk = (cmpT M (k + k2)).length ∧ wr.ownsRow base 41 3 (.slice (some ⟨g, 0, none⟩) n cap) n (rowM (cmpT M (k + k2) ++ M.drop kk)) ∧ w.grownBy wr (some g)) (fun _ i _ => n - (k + (intOf i).toNat))
     case atStart => exact ⟨k, 1, rfl, rfl, Nat.le_refl _, by omega, by omega, HK1.out.symm, HO1.out, HG1⟩
     case round =>
      clear HO1 HG1 HK1
      obtain ⟨kk, k2, rfl, rfl, hk21, hk2n, hkkn, hkk, hown, hgr⟩ := hrel
      by_cases hlt2 : k + k2 < n
      ·have hml : k + k2 < M.length := by have := HL.out; omega
       have hkkM : kk < M.length := by omega
       obtain ⟨k3, hk3⟩ : ∃ k3, k2 = k3 + 1 := ⟨k2 - 1, by omega⟩
       have hpl2 : k + k3 < M.length := by omega
       have a1 : (cmpT M (k + k2) ++ M.drop kk)[k + k2]? = some M[k + k2] := by
        rw [List.getElem?_append_right (by omega), ← hkk, List.getElem?_drop, show kk + (k + k2 - kk) = k + k2 by omega]; exact List.getElem?_eq_getElem hml
       have a2 : (cmpT M (k + k2) ++ M.drop kk)[k + k3]? = some M[k + k3] := by
        rw [List.getElem?_append_right (by omega), ← hkk, List.getElem?_drop, show kk + (k + k3 - kk) = k + k3 by omega]; exact List.getElem?_eq_getElem hpl2
       have hdr : M.drop kk = M[kk]'hkkM :: M.drop (kk + 1) := List.drop_eq_getElem_cons hkkM
       have e1 := own_at hown a1 (k * 3 + k2 * 3) (by omega)
       have e2 := own_at hown a2 (k * 3 + k3 * 3) (by omega)
       have hkeep := fun h => cmpT_keep hml (.inr h)
       have hskip := cmpT_skip (M := M) hml (by omega)
       simp only [show k + k2 - 1 = k + k3 by omega] at hkeep hskip
       generalize M[k + k2] = d at e1 hkeep hskip
       generalize M[k + k3] = p at e2 hkeep hskip
       obtain ⟨xx, yy, bb⟩ := d
       obtain ⟨uu, vv, cc⟩ := p
       obtain ⟨c0, c1, c2⟩ := e1
       obtain ⟨d0, d1, d2⟩ := e2
       simp only at c0 c1 c2 d0 d1 d2
       have hwr : IntKind.i64.wrap ((k2 : Int) - 1) = (k3 : Int) := by rw [IntKind.wrap_i64]; omega
       have hk2i : (k2 : Int) < ((n - k : Nat) : Int) := by omega
       have hk3i : (k3 : Int) < ((n - k : Nat) : Int) := by omega
       have HK3 := Lib.hid hk3
       clear hk3 a1 a2
       by_cases he : xx = uu ∧ yy = vv ∧ bb = cc
       ·obtain ⟨rfl, rfl, rfl⟩ := he
        have HS := Lib.hid (hskip rfl)
        have HO2 := Lib.hid hown
        clear hskip hkeep hown hdr
        go_upto_region 11 with fail
        refine wp_region_noPanic ?_
        refine wp_region_held_drew (S := (fun w' => w'.cell? ⟨g, k * 3 + k2 * 3, none⟩ = some (.int .i64 xx) ∧ w'.cell? ⟨g, k * 3 + k2 * 3 + 1, none⟩ = some (.int .i64 yy) ∧ w'.cell? ⟨g, k * 3 + k2 * 3 + 2, none⟩ = some (.bool bb) ∧ w'.cell? ⟨g, k * 3 + k3 * 3, none⟩ = some (.int .i64 xx) ∧ w'.cell? ⟨g, k * 3 + k3 * 3 + 1, none⟩ = some (.int .i64 yy) ∧ w'.cell? ⟨g, k * 3 + k3 * 3 + 2, none⟩ = some (.bool bb))) (by kernel_rfl) (⟨c0, c1, c2, d0, d1, d2⟩) (fun hHeld => ?_)
        refine wpAnyH_take (i := 0) (v := ?_) rfl (by kernel_rfl) (by kernel_rfl) (by kernel_rfl) (fun _ _ _ h => h) (Or.inl ⟨(by as_aux_lemma => kernel_rfl), ?_⟩) (by assumption) ?_
        rotate_left
        ·(intro w' hS; (try dsimp only at hS); go_simp; try with_reducible rfl)
        try simp only [Act.put, List.getElem_toArray, List.getElem_cons_succ, List.getElem_cons_zero, List.setIfInBounds_toArray, List.set_cons_zero, List.set_cons_succ]
        refine wpAnyH_take (i := 1) (v := ?_) rfl (by kernel_rfl) (by kernel_rfl) (by kernel_rfl) (fun _ _ _ h => h) (Or.inl ⟨(by as_aux_lemma => kernel_rfl), ?_⟩) (by assumption) ?_
        rotate_left
        ·(intro w' hS; (try dsimp only at hS); go_simp; try with_reducible rfl)
        try simp only [Act.put, List.getElem_toArray, List.getElem_cons_succ, List.getElem_cons_zero, List.setIfInBounds_toArray, List.set_cons_zero, List.set_cons_succ]
        refine wpAnyH_take (i := 2) (v := ?_) rfl (by kernel_rfl) (by kernel_rfl) (by kernel_rfl) (fun _ _ _ h => h) (Or.inl ⟨(by as_aux_lemma => kernel_rfl), ?_⟩) (by assumption) ?_
        rotate_left
        ·(intro w' hS; (try dsimp only at hS); go_simp; try with_reducible rfl)
        try simp only [Act.put, List.getElem_toArray, List.getElem_cons_succ, List.getElem_cons_zero, List.setIfInBounds_toArray, List.set_cons_zero, List.set_cons_succ]
        refine wpAnyH_take (i := 3) (v := ?_) rfl (by kernel_rfl) (by kernel_rfl) (by kernel_rfl) (fun _ _ _ h => h) (Or.inl ⟨(by as_aux_lemma => kernel_rfl), ?_⟩) (by assumption) ?_
        rotate_left
        ·(intro w' hS; (try dsimp only at hS); go_simp; try with_reducible rfl)
        try simp only [Act.put, List.getElem_toArray, List.getElem_cons_succ, List.getElem_cons_zero, List.setIfInBounds_toArray, List.set_cons_zero, List.set_cons_succ]
        refine wpAnyH_take (i := 4) (v := ?_) rfl (by kernel_rfl) (by kernel_rfl) (by kernel_rfl) (fun _ _ _ h => h) (Or.inl ⟨(by as_aux_lemma => kernel_rfl), ?_⟩) (by assumption) ?_
        rotate_left
        ·(intro w' hS; (try dsimp only at hS); go_simp; try with_reducible rfl)
        try simp only [Act.put, List.getElem_toArray, List.getElem_cons_succ, List.getElem_cons_zero, List.setIfInBounds_toArray, List.set_cons_zero, List.set_cons_succ]
        refine wpAnyH_take (i := 5) (v := ?_) rfl (by kernel_rfl) (by kernel_rfl) (by kernel_rfl) (fun _ _ _ h => h) (Or.inl ⟨(by as_aux_lemma => kernel_rfl), ?_⟩) (by assumption) ?_
        rotate_left
        ·(intro w' hS; (try dsimp only at hS); go_simp; try with_reducible rfl)
        try simp only [Act.put, List.getElem_toArray, List.getElem_cons_succ, List.getElem_cons_zero, List.setIfInBounds_toArray, List.set_cons_zero, List.set_cons_succ]
        refine wpAnyH_take (i := 6) (v := ?_) rfl (by kernel_rfl) (by kernel_rfl) (by kernel_rfl) (fun _ _ _ h => h) (Or.inl ⟨(by as_aux_lemma => kernel_rfl), ?_⟩) (by assumption) ?_
        rotate_left
        ·(intro w' hS; (try dsimp only at hS); go_simp; try with_reducible rfl)
        try simp only [Act.put, List.getElem_toArray, List.getElem_cons_succ, List.getElem_cons_zero, List.setIfInBounds_toArray, List.set_cons_zero, List.set_cons_succ]
        refine wpAnyH_take (i := 7) (v := ?_) rfl (by kernel_rfl) (by kernel_rfl) (by kernel_rfl) (fun _ _ _ h => h) (Or.inl ⟨(by as_aux_lemma => kernel_rfl), ?_⟩) (by assumption) ?_
        rotate_left
        ·(intro w' hS; (try dsimp only at hS); go_simp; try with_reducible rfl)
        try simp only [Act.put, List.getElem_toArray, List.getElem_cons_succ, List.getElem_cons_zero, List.setIfInBounds_toArray, List.set_cons_zero, List.set_cons_succ]
        refine wpAnyH_take (i := 8) (v := ?_) rfl (by kernel_rfl) (by kernel_rfl) (by kernel_rfl) (fun _ _ _ h => h) (Or.inl ⟨(by as_aux_lemma => kernel_rfl), ?_⟩) (by assumption) ?_
        rotate_left
        ·(intro w' hS; (try dsimp only at hS); go_simp; try with_reducible rfl)
        try simp only [Act.put, List.getElem_toArray, List.getElem_cons_succ, List.getElem_cons_zero, List.setIfInBounds_toArray, List.set_cons_zero, List.set_cons_succ]
        refine wpAnyH_take (i := 9) (v := ?_) rfl (by kernel_rfl) (by kernel_rfl) (by kernel_rfl) (fun _ _ _ h => h) (Or.inl ⟨(by as_aux_lemma => kernel_rfl), ?_⟩) (by assumption) ?_
        rotate_left
        ·(intro w' hS; (try dsimp only at hS); go_simp; try with_reducible rfl)
        try simp only [Act.put, List.getElem_toArray, List.getElem_cons_succ, List.getElem_cons_zero, List.setIfInBounds_toArray, List.set_cons_zero, List.set_cons_succ]
        refine wpAnyH_done (by kernel_rfl) ?_ _
        refine NoPanic.normal ?_
        clear hHeld hwr c0 c1 c2 d0 d1 d2
        go_wp2
        go_roundw
        case rel => exact ⟨kk, k2 + 1, rfl, by go_num, by omega, by omega, by omega, by rw [← Nat.add_assoc, HS.out]; exact hkk, by rw [← Nat.add_assoc, HS.out]; exact HO2.out, grown_drew hgr⟩
        case measure => (simp [intOf] <;> omega)
       ·have HR := Lib.hid (fun a o t1 t2 w' => neC_run he a o t1 t2 w')
        have HS := Lib.hid (hkeep (by intro e; injection e with e1 e; injection e with e2 e3; exact he ⟨e1, e2, e3⟩))
        clear hskip hkeep he
        have hu : ∀ m, m < n * 3 → ∃ u, wr.drew.cell? ⟨g, m, none⟩ = some u := fun m hm => by
         have hlen := hown.1
         show ∃ u, wr.cell? _ = _
         rw [hown.cellAt m (by omega)]; exact ⟨_, List.getElem?_eq_getElem (by omega)⟩
        obtain ⟨u0, hu0⟩ := hu (kk * 3) (by omega)
        obtain ⟨u1, hu1⟩ := hu (kk * 3 + 1) (by omega)
        obtain ⟨u2, hu2⟩ := hu (kk * 3 + 2) (by omega)
        have hf0 : wr.drew.frozen? ⟨g, kk * 3, none⟩ = false := hown.frozenAt (kk * 3)
        have hf1 : wr.drew.frozen? ⟨g, kk * 3 + 1, none⟩ = false := hown.frozenAt (kk * 3 + 1)
        have hf2 : wr.drew.frozen? ⟨g, kk * 3 + 2, none⟩ = false := hown.frozenAt (kk * 3 + 2)
        have hst := own_put (q := (xx, yy, bb)) (show wr.drew.ownsRow base 41 3 (.slice (some ⟨g, 0, none⟩) n cap) n (rowM (cmpT M (k + k2) ++ M.drop kk)) from hown) (by rw [hdr])
        rw [← hkk] at hst
        simp only at hst
        have R := Lib.hid hst
        have HG2 := Lib.hid (grown_trans (grown_trans (grown_trans (grown_drew hgr) (grown_put (kk * 3) (.int .i64 xx))) (grown_put (kk * 3 + 1) (.int .i64 yy))) (grown_put (kk * 3 + 2) (.bool bb)))
        have hkki : (kk : Int) < (n : Int) := by omega
        have hc0 : wr.drew.cell? ⟨g, k * 3 + k2 * 3, none⟩ = some (.int .i64 xx) := c0
        have hc1 : wr.drew.cell? ⟨g, k * 3 + k2 * 3 + 1, none⟩ = some (.int .i64 yy) := c1
        have hc2 : wr.drew.cell? ⟨g, k * 3 + k2 * 3 + 2, none⟩ = some (.bool bb) := c2
        have HKI := Lib.hid hkk
        clear hown hst hu hgr hdr hkk
        go_upto_region 11 with fail
        refine wp_region_noPanic ?_
        refine wp_region_held_drew (S := (fun w' => w'.cell? ⟨g, k * 3 + k2 * 3, none⟩ = some (.int .i64 xx) ∧ w'.cell? ⟨g, k * 3 + k2 * 3 + 1, none⟩ = some (.int .i64 yy) ∧ w'.cell? ⟨g, k * 3 + k2 * 3 + 2, none⟩ = some (.bool bb) ∧ w'.cell? ⟨g, k * 3 + k3 * 3, none⟩ = some (.int .i64 uu) ∧ w'.cell? ⟨g, k * 3 + k3 * 3 + 1, none⟩ = some (.int .i64 vv) ∧ w'.cell? ⟨g, k * 3 + k3 * 3 + 2, none⟩ = some (.bool cc))) (by kernel_rfl) (⟨c0, c1, c2, d0, d1, d2⟩) (fun hHeld => ?_)
        refine wpAnyH_take (i := 0) (v := ?_) rfl (by kernel_rfl) (by kernel_rfl) (by kernel_rfl) (fun _ _ _ h => h) (Or.inl ⟨(by as_aux_lemma => kernel_rfl), ?_⟩) (by assumption) ?_
        rotate_left
        ·(intro w' hS; (try dsimp only at hS); go_simp; try with_reducible rfl)
        try simp only [Act.put, List.getElem_toArray, List.getElem_cons_succ, List.getElem_cons_zero, List.setIfInBounds_toArray, List.set_cons_zero, List.set_cons_succ]
        refine wpAnyH_take (i := 1) (v := ?_) rfl (by kernel_rfl) (by kernel_rfl) (by kernel_rfl) (fun _ _ _ h => h) (Or.inl ⟨(by as_aux_lemma => kernel_rfl), ?_⟩) (by assumption) ?_
        rotate_left
        ·(intro w' hS; (try dsimp only at hS); go_simp; try with_reducible rfl)
        try simp only [Act.put, List.getElem_toArray, List.getElem_cons_succ, List.getElem_cons_zero, List.setIfInBounds_toArray, List.set_cons_zero, List.set_cons_succ]
        refine wpAnyH_take (i := 2) (v := ?_) rfl (by kernel_rfl) (by kernel_rfl) (by kernel_rfl) (fun _ _ _ h => h) (Or.inl ⟨(by as_aux_lemma => kernel_rfl), ?_⟩) (by assumption) ?_
        rotate_left
        ·(intro w' hS; (try dsimp only at hS); go_simp; try with_reducible rfl)
        try simp only [Act.put, List.getElem_toArray, List.getElem_cons_succ, List.getElem_cons_zero, List.setIfInBounds_toArray, List.set_cons_zero, List.set_cons_succ]
        refine wpAnyH_take (i := 3) (v := ?_) rfl (by kernel_rfl) (by kernel_rfl) (by kernel_rfl) (fun _ _ _ h => h) (Or.inl ⟨(by as_aux_lemma => kernel_rfl), ?_⟩) (by assumption) ?_
        rotate_left
        ·(intro w' hS; (try dsimp only at hS); go_simp; try with_reducible rfl)
        try simp only [Act.put, List.getElem_toArray, List.getElem_cons_succ, List.getElem_cons_zero, List.setIfInBounds_toArray, List.set_cons_zero, List.set_cons_succ]
        refine wpAnyH_take (i := 4) (v := ?_) rfl (by kernel_rfl) (by kernel_rfl) (by kernel_rfl) (fun _ _ _ h => h) (Or.inl ⟨(by as_aux_lemma => kernel_rfl), ?_⟩) (by assumption) ?_
        rotate_left
        ·(intro w' hS; (try dsimp only at hS); go_simp; try with_reducible rfl)
        try simp only [Act.put, List.getElem_toArray, List.getElem_cons_succ, List.getElem_cons_zero, List.setIfInBounds_toArray, List.set_cons_zero, List.set_cons_succ]
        refine wpAnyH_take (i := 5) (v := ?_) rfl (by kernel_rfl) (by kernel_rfl) (by kernel_rfl) (fun _ _ _ h => h) (Or.inl ⟨(by as_aux_lemma => kernel_rfl), ?_⟩) (by assumption) ?_
        rotate_left
        ·(intro w' hS; (try dsimp only at hS); go_simp; try with_reducible rfl)
        try simp only [Act.put, List.getElem_toArray, List.getElem_cons_succ, List.getElem_cons_zero, List.setIfInBounds_toArray, List.set_cons_zero, List.set_cons_succ]
        refine wpAnyH_take (i := 6) (v := ?_) rfl (by kernel_rfl) (by kernel_rfl) (by kernel_rfl) (fun _ _ _ h => h) (Or.inl ⟨(by as_aux_lemma => kernel_rfl), ?_⟩) (by assumption) ?_
        rotate_left
        ·(intro w' hS; (try dsimp only at hS); go_simp; try with_reducible rfl)
        try simp only [Act.put, List.getElem_toArray, List.getElem_cons_succ, List.getElem_cons_zero, List.setIfInBounds_toArray, List.set_cons_zero, List.set_cons_succ]
        refine wpAnyH_take (i := 7) (v := ?_) rfl (by kernel_rfl) (by kernel_rfl) (by kernel_rfl) (fun _ _ _ h => h) (Or.inl ⟨(by as_aux_lemma => kernel_rfl), ?_⟩) (by assumption) ?_
        rotate_left
        ·(intro w' hS; (try dsimp only at hS); go_simp; try with_reducible rfl)
        try simp only [Act.put, List.getElem_toArray, List.getElem_cons_succ, List.getElem_cons_zero, List.setIfInBounds_toArray, List.set_cons_zero, List.set_cons_succ]
        refine wpAnyH_take (i := 8) (v := ?_) rfl (by kernel_rfl) (by kernel_rfl) (by kernel_rfl) (fun _ _ _ h => h) (Or.inl ⟨(by as_aux_lemma => kernel_rfl), ?_⟩) (by assumption) ?_
        rotate_left
        ·(intro w' hS; (try dsimp only at hS); go_simp; try with_reducible rfl)
        try simp only [Act.put, List.getElem_toArray, List.getElem_cons_succ, List.getElem_cons_zero, List.setIfInBounds_toArray, List.set_cons_zero, List.set_cons_succ]
        refine wpAnyH_take (i := 9) (v := .bool true) rfl (by kernel_rfl) (by kernel_rfl) (by kernel_rfl) (fun _ _ _ h => h) (Or.inl ⟨by rfl, fun w' hS => HR.out _ _ _ _ w' rfl (by kernel_rfl) (by kernel_rfl)⟩) (by assumption) ?_
        try simp only [Act.put, List.getElem_toArray, List.getElem_cons_succ, List.getElem_cons_zero, List.setIfInBounds_toArray, List.set_cons_zero, List.set_cons_succ]
        refine wpAnyH_done (by kernel_rfl) ?_ _
        refine NoPanic.normal ?_
        clear hHeld hwr c0 c1 c2 d0 d1 d2 HR
        generalize wr.drew = W2 at hu0 hu1 hu2 hf0 hf1 hf2 R HG2 hc0 hc1 hc2 ⊢
        go_wp2
        go_roundw
        case rel => exact ⟨kk + 1, k2 + 1, by go_num, by go_num, by omega, by omega, by omega, by rw [← Nat.add_assoc, HS.out, List.length_append, ← HKI.out]; rfl, by rw [← Nat.add_assoc, HS.out, List.append_assoc]; exact R.out, HG2.out⟩
        case measure => (simp [intOf] <;> omega)
      ·have hend : k + k2 = n := by omega
       rw [hend] at hown hkk
       have hcut := own_cut hown (k := kk) (by omega)
       have htk : (rowM (cmpT M n ++ M.drop kk)).take (kk * 3) = rowM (cmpT M n) := by
        rw [rowM_app, hkk, ← rowM_length, List.take_left]
       rw [htk] at hcut
       have hcl := fun ty => run_clear wr ty g (kk * 3) (n - kk) (cap - kk) (by omega) (fun j hj => by
        have hlen := hown.1
        rw [hown.cellAt (kk * 3 + j) (by omega), List.getElem?_eq_getElem (by omega)]; rfl) (fun j hj => hown.frozenAt (kk * 3 + j))
       have HR := Lib.hid (own_setCells (Builtin.zeroCells #[.int .i64 0, .int .i64 0, .bool false] (n - kk)).toList (kk * 3) wr hcut (Nat.le_refl _))
       have HGF := Lib.hid (grown_trans hgr (grown_setCells (g := g) (Builtin.zeroCells #[.int .i64 0, .int .i64 0, .bool false] (n - kk)).toList (kk * 3) wr))
       have hkc : ¬ (cap = kk) := by omega
       have hkc2 : (kk : Int) ≤ (n : Int) := by omega
       have hkc3 : (kk : Int) ≤ (cap : Int) := by omega
       have HKK := Lib.hid hkk
       generalize (Builtin.zeroCells #[.int .i64 0, .int .i64 0, .bool false] (n - kk)).toList = zs at hcl HR HGF
       clear hown hcut htk hgr hkk
       go_wp2
       go_ret
       exact ⟨kk, rfl, HKK.out, HR.out, HGF.out⟩
    ·have HR := Lib.hid (fun a o t1 t2 w' => eqC_run he a o t1 t2 w')
     have HS := Lib.hid (hkeep (by intro e; injection e with e1 e; injection e with e2 e3; exact he ⟨e1, e2, e3⟩))
     clear hskip hkeep he
     go_upto_region 6 with fail
     refine wp_region_noPanic ?_
     refine wp_region_held_drew (S := (fun w' => w'.cell? ⟨g, k * 3, none⟩ = some (.int .i64 x) ∧ w'.cell? ⟨g, k * 3 + 1, none⟩ = some (.int .i64 y) ∧ w'.cell? ⟨g, k * 3 + 2, none⟩ = some (.bool b) ∧ w'.cell? ⟨g, kp * 3, none⟩ = some (.int .i64 u) ∧ w'.cell? ⟨g, kp * 3 + 1, none⟩ = some (.int .i64 v) ∧ w'.cell? ⟨g, kp * 3 + 2, none⟩ = some (.bool c))) (by kernel_rfl) (⟨c0, c1, c2, d0, d1, d2⟩) (fun hHeld => ?_)
     refine wpAnyH_take (i := 0) (v := ?_) rfl (by kernel_rfl) (by kernel_rfl) (by kernel_rfl) (fun _ _ _ h => h) (Or.inl ⟨(by as_aux_lemma => kernel_rfl), ?_⟩) (by assumption) ?_
     rotate_left
     ·(intro w' hS; (try dsimp only at hS); go_simp; try with_reducible rfl)
     try simp only [Act.put, List.getElem_toArray, List.getElem_cons_succ, List.getElem_cons_zero, List.setIfInBounds_toArray, List.set_cons_zero, List.set_cons_succ]
     refine wpAnyH_take (i := 1) (v := ?_) rfl (by kernel_rfl) (by kernel_rfl) (by kernel_rfl) (fun _ _ _ h => h) (Or.inl ⟨(by as_aux_lemma => kernel_rfl), ?_⟩) (by assumption) ?_
     rotate_left
     ·(intro w' hS; (try dsimp only at hS); go_simp; try with_reducible rfl)
     try simp only [Act.put, List.getElem_toArray, List.getElem_cons_succ, List.getElem_cons_zero, List.setIfInBounds_toArray, List.set_cons_zero, List.set_cons_succ]
     refine wpAnyH_take (i := 2) (v := ?_) rfl (by kernel_rfl) (by kernel_rfl) (by kernel_rfl) (fun _ _ _ h => h) (Or.inl ⟨(by as_aux_lemma => kernel_rfl), ?_⟩) (by assumption) ?_
     rotate_left
     ·(intro w' hS; (try dsimp only at hS); go_simp; try with_reducible rfl)
     try simp only [Act.put, List.getElem_toArray, List.getElem_cons_succ, List.getElem_cons_zero, List.setIfInBounds_toArray, List.set_cons_zero, List.set_cons_succ]
     refine wpAnyH_take (i := 3) (v := ?_) rfl (by kernel_rfl) (by kernel_rfl) (by kernel_rfl) (fun _ _ _ h => h) (Or.inl ⟨(by as_aux_lemma => kernel_rfl), ?_⟩) (by assumption) ?_
     rotate_left
     ·(intro w' hS; (try dsimp only at hS); go_simp; try with_reducible rfl)
     try simp only [Act.put, List.getElem_toArray, List.getElem_cons_succ, List.getElem_cons_zero, List.setIfInBounds_toArray, List.set_cons_zero, List.set_cons_succ]
     refine wpAnyH_take (i := 4) (v := ?_) rfl (by kernel_rfl) (by kernel_rfl) (by kernel_rfl) (fun _ _ _ h => h) (Or.inl ⟨(by as_aux_lemma => kernel_rfl), ?_⟩) (by assumption) ?_
     rotate_left
     ·(intro w' hS; (try dsimp only at hS); go_simp; try with_reducible rfl)
     try simp only [Act.put, List.getElem_toArray, List.getElem_cons_succ, List.getElem_cons_zero, List.setIfInBounds_toArray, List.set_cons_zero, List.set_cons_succ]
     refine wpAnyH_take (i := 5) (v := ?_) rfl (by kernel_rfl) (by kernel_rfl) (by kernel_rfl) (fun _ _ _ h => h) (Or.inl ⟨(by as_aux_lemma => kernel_rfl), ?_⟩) (by assumption) ?_
     rotate_left
     ·(intro w' hS; (try dsimp only at hS); go_simp; try with_reducible rfl)
     try simp only [Act.put, List.getElem_toArray, List.getElem_cons_succ, List.getElem_cons_zero, List.setIfInBounds_toArray, List.set_cons_zero, List.set_cons_succ]
     refine wpAnyH_take (i := 6) (v := ?_) rfl (by kernel_rfl) (by kernel_rfl) (by kernel_rfl) (fun _ _ _ h => h) (Or.inl ⟨(by as_aux_lemma => kernel_rfl), ?_⟩) (by assumption) ?_
     rotate_left
     ·(intro w' hS; (try dsimp only at hS); go_simp; try with_reducible rfl)
     try simp only [Act.put, List.getElem_toArray, List.getElem_cons_succ, List.getElem_cons_zero, List.setIfInBounds_toArray, List.set_cons_zero, List.set_cons_succ]
     refine wpAnyH_take (i := 7) (v := ?_) rfl (by kernel_rfl) (by kernel_rfl) (by kernel_rfl) (fun _ _ _ h => h) (Or.inl ⟨(by as_aux_lemma => kernel_rfl), ?_⟩) (by assumption) ?_
     rotate_left
     ·(intro w' hS; (try dsimp only at hS); go_simp; try with_reducible rfl)
     try simp only [Act.put, List.getElem_toArray, List.getElem_cons_succ, List.getElem_cons_zero, List.setIfInBounds_toArray, List.set_cons_zero, List.set_cons_succ]
     refine wpAnyH_take (i := 8) (v := ?_) rfl (by kernel_rfl) (by kernel_rfl) (by kernel_rfl) (fun _ _ _ h => h) (Or.inl ⟨(by as_aux_lemma => kernel_rfl), ?_⟩) (by assumption) ?_
     rotate_left
     ·(intro w' hS; (try dsimp only at hS); go_simp; try with_reducible rfl)
     try simp only [Act.put, List.getElem_toArray, List.getElem_cons_succ, List.getElem_cons_zero, List.setIfInBounds_toArray, List.set_cons_zero, List.set_cons_succ]
     refine wpAnyH_take (i := 9) (v := .bool false) rfl (by kernel_rfl) (by kernel_rfl) (by kernel_rfl) (fun _ _ _ h => h) (Or.inl ⟨by rfl, fun w' hS => HR.out _ _ _ _ w' rfl (by kernel_rfl) (by kernel_rfl)⟩) (by assumption) ?_
     try simp only [Act.put, List.getElem_toArray, List.getElem_cons_succ, List.getElem_cons_zero, List.setIfInBounds_toArray, List.set_cons_zero, List.set_cons_succ]
     refine wpAnyH_done (by kernel_rfl) ?_ _
     refine NoPanic.normal ?_
     clear hHeld hwr hkpn c0 c1 c2 d0 d1 d2 HR
     go_wp2
     go_roundw
     case rel => exact ⟨k + 1, q + 1, by omega, by omega, by go_num, rfl, Lib.hid (by rw [HS.out, hA.out, HTk.out])⟩
     case measure => (simp [intOf] <;> omega)
   ·obtain rfl : k = n := by omega
    have HE := Lib.hid (show cmpT M k = M by rw [hA.out, ← HL.out, List.take_length])
    go_wp2
    go_ret
    exact ⟨k, rfl, by rw [HE.out]; exact HL.out.symm, by rw [HE.out]; exact HQ.out, ⟨rfl, rfl, rfl, Nat.le_refl _, fun _ _ _ => rfl⟩⟩
end Go.Proofs.Ytjfagpmklifjlaa.Cmp
