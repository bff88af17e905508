/- CmpP, CmpI, OrdI in one text. -/
import Derived.Test.YtmajllgfmclcoaaGreatDoorMd02
import Derived.Test.YtmajllgfmclcoaaGreatDoorMd21
import Derived.Lib.SliceRun
import Derived.Deep.RegionHeld3
import Derived.Test.YtmajllgfmclcoaaGreatDoorMd36
set_option linter.unusedVariables false
set_option linter.unusedSimpArgs false
namespace Go.Proofs.YtmajllgfmclcoaaGreatDoor.Cmp
open Go.RowKit Dms Til
def cmpT : List Dm → Nat → List Dm
  | _, 0 => []
  | M, j + 1 => if j = 0 ∨ M.getD j (0, 0, false) ≠ M.getD (j - 1) (0, 0, false) then cmpT M j ++ [M.getD j (0, 0, false)] else cmpT M j
theorem cmpT_keep {M : List Dm} {j : Nat} (hj : j < M.length) (h : j = 0 ∨ M[j] ≠ M[j - 1]'(by omega)) : cmpT M (j + 1) = cmpT M j ++ [M[j]] := by
  have e1 : M.getD j (0, 0, false) = M[j] := by simp [List.getD, List.getElem?_eq_getElem hj]
  have e2 : M.getD (j - 1) (0, 0, false) = M[j - 1]'(by omega) := by simp [List.getD, List.getElem?_eq_getElem (show j - 1 < M.length by omega)]
  show (if _ then _ else _) = _
  rw [e1, e2, if_pos h]
theorem cmpT_skip {M : List Dm} {j : Nat} (hj : j < M.length) (h0 : 0 < j) (h : M[j] = M[j - 1]'(by omega)) : cmpT M (j + 1) = cmpT M j := by
  have e1 : M.getD j (0, 0, false) = M[j] := by simp [List.getD, List.getElem?_eq_getElem hj]
  have e2 : M.getD (j - 1) (0, 0, false) = M[j - 1]'(by omega) := by simp [List.getD, List.getElem?_eq_getElem (show j - 1 < M.length by omega)]
  show (if _ then _ else _) = _
  rw [e1, e2, if_neg (by rintro (h' | h'); · omega
                         · exact h' h)]
theorem cmpT_all {M : List Dm} : ∀ {j : Nat}, j ≤ M.length → (∀ i, (h0 : 0 < i) → (hi : i < j) → (hm : i < M.length) → M[i] ≠ M[i - 1]'(by omega)) → cmpT M j = M.take j := by
  intro j
  induction j with
  | zero => intro _ _; simp [cmpT]
  | succ j ih =>
    intro hj h
    rw [cmpT_keep (by omega) (by
      by_cases h0 : j = 0
      · exact .inl h0
      · exact .inr (h j (by omega) (by omega) (by omega))), ih (by omega) (fun i h0 hi hm => h i h0 (by omega) hm), List.take_succ_eq_append_getElem (by omega)]
theorem cmpT_good {M : List Dm} (hs : M.Pairwise (fun a b => befM b a = false)) (hv : ∀ d ∈ M, okM d = true) : ∀ j, j ≤ M.length →
    Inc (cmpT M j) ∧ (∀ d ∈ cmpT M j, ∃ p, M[j - 1]? = some p ∧ (d = p ∨ befM d p = true)) ∧ ∀ d, d ∈ cmpT M j ↔ d ∈ M.take j := by
  intro j
  induction j with
  | zero => intro _; simp [cmpT, Inc]
  | succ j ih =>
    intro hj
    obtain ⟨i1, i2, i3⟩ := ih (by omega)
    have hjl : j < M.length := by omega
    have htk : ∀ d, d ∈ M.take (j + 1) ↔ d ∈ M.take j ∨ d = M[j] := fun d => by rw [List.take_succ_eq_append_getElem hjl, List.mem_append, List.mem_singleton]
    by_cases h0 : j = 0
    · subst h0
      rw [cmpT_keep hjl (.inl rfl)]
      refine ⟨by simp [Inc, cmpT], fun d hd => ?_, fun d => ?_⟩
      · simp [cmpT] at hd; exact ⟨M[0], by simp, .inl hd⟩
      · rw [htk]; simp [cmpT]
    · have hp : j - 1 < M.length := by omega
      have hord : befM M[j] (M[j - 1]'hp) = false := by
        rw [List.pairwise_iff_getElem] at hs
        exact hs (j - 1) j hp hjl (by omega)
      by_cases he : M[j] = M[j - 1]'hp
      · rw [cmpT_skip hjl (by omega) he]
        refine ⟨i1, fun d hd => ?_, fun d => ?_⟩
        · obtain ⟨p, hp1, hp2⟩ := i2 d hd
          refine ⟨p, ?_, hp2⟩
          rw [Nat.add_sub_cancel, List.getElem?_eq_getElem hjl, he, ← hp1, List.getElem?_eq_getElem hp]
        · rw [i3, htk]
          constructor
          · exact .inl
          · rintro (h | h)
            · exact h
            · rw [h, he, List.mem_take_iff_getElem]
              exact ⟨j - 1, by omega, rfl⟩
      · have hlt : befM (M[j - 1]'hp) M[j] = true := by
          rw [befM_total (hv _ (List.getElem_mem hjl)) (hv _ (List.getElem_mem hp)) he, hord]; rfl
        have hall : ∀ d ∈ cmpT M j, befM d M[j] = true := fun d hd => by
          obtain ⟨p, hp1, hp2⟩ := i2 d hd
          rw [List.getElem?_eq_getElem hp] at hp1
          injection hp1 with hp1
          subst hp1
          rcases hp2 with rfl | hp2
          · exact hlt
          · exact befM_trans hp2 hlt
        rw [cmpT_keep hjl (.inr he)]
        refine ⟨?_, fun d hd => ⟨M[j], by simp, ?_⟩, fun d => ?_⟩
        · unfold Inc
          rw [List.pairwise_append]
          exact ⟨i1, by simp, fun a ha b hb => by rw [List.mem_singleton] at hb; subst hb; exact hall a ha⟩
        · rcases List.mem_append.1 hd with hd | hd
          · exact .inr (hall d hd)
          · exact .inl (List.mem_singleton.1 hd)
        · rw [List.mem_append, List.mem_singleton, i3, htk]
theorem cmpT_sort {L M : List Dm} (hs : M.Pairwise (fun a b => befM b a = false)) (hp : M.Perm (L.filter okM)) : cmpT M M.length = sortM L := by
  have hv : ∀ d ∈ M, okM d = true := fun d hd => (List.mem_filter.1 (hp.mem_iff.1 hd)).2
  obtain ⟨h1, _, h3⟩ := cmpT_good hs hv M.length NR
  refine (sortM_of h1 fun d => ?_).symm
  rw [h3, List.take_length, hp.mem_iff, List.mem_filter]
end Go.Proofs.YtmajllgfmclcoaaGreatDoor.Cmp
namespace Go.Proofs.YtmajllgfmclcoaaGreatDoor.Cmp
open Go.RowKit Dms Go.Joins
set_option maxHeartbeats 1000000 in
theorem eqC_run {x y : Int} {b : Bool} {u v : Int} {c : Bool} (hne : ¬ (x = u ∧ y = v ∧ b = c)) (a : Act) (o : Oper) (t1 t2 : Operand) (w' : World)
  (ho : o.op = .binOp .eql 63 t1 t2 63) (h1 : a.eval t1 = .agg #[.int .i64 x, .int .i64 y, .bool b]) (h2 : a.eval t2 = .agg #[.int .i64 u, .int .i64 v, .bool c]) :
  (execOp a.eval o).run Tryz.prog w' = .ok (.value (.bool false)) w' := by
 unfold execOp
 rw [ho]
 simp only [h1, h2]
 by_cases hxu : x = u
 ·subst hxu
  by_cases hyv : y = v
  ·subst hyv
   cases b <;> cases c
   ·exact absurd ⟨rfl, rfl, rfl⟩ hne
   ·clear hne ho h1 h2; go_simp
   ·clear hne ho h1 h2; go_simp
   ·exact absurd ⟨rfl, rfl, rfl⟩ hne
  ·clear hne ho h1 h2; go_simp
 ·clear hne ho h1 h2; go_simp
set_option maxHeartbeats 1000000 in
theorem neC_run {x y : Int} {b : Bool} {u v : Int} {c : Bool} (hne : ¬ (x = u ∧ y = v ∧ b = c)) (a : Act) (o : Oper) (t1 t2 : Operand) (w' : World)
  (ho : o.op = .binOp .neq 63 t1 t2 63) (h1 : a.eval t1 = .agg #[.int .i64 x, .int .i64 y, .bool b]) (h2 : a.eval t2 = .agg #[.int .i64 u, .int .i64 v, .bool c]) :
  (execOp a.eval o).run Tryz.prog w' = .ok (.value (.bool true)) w' := by
 unfold execOp
 rw [ho]
 simp only [h1, h2]
 by_cases hxu : x = u
 ·subst hxu
  by_cases hyv : y = v
  ·subst hyv
   cases b <;> cases c
   ·exact absurd ⟨rfl, rfl, rfl⟩ hne
   ·clear hne ho h1 h2; go_simp
   ·clear hne ho h1 h2; go_simp
   ·exact absurd ⟨rfl, rfl, rfl⟩ hne
  ·clear hne ho h1 h2; go_simp
 ·clear hne ho h1 h2; go_simp
theorem own_cut {w : World} {base e g n cap k : Nat} {xs : List Value} (h : w.ownsRow base e 3 (.slice (some ⟨g, 0, none⟩) n cap) n xs) (hk : k ≤ n) : w.ownsRow base e 3 (.slice (some ⟨g, 0, none⟩) k cap) k (xs.take (k * 3)) := by
 obtain ⟨h1, h2⟩ := h
 refine ⟨by rw [List.length_take, h1]; omega, ?_⟩
 rcases h2 with ⟨h2, _⟩ | ⟨g', cap', cur, hv, a, b, c, d, e1, f⟩
 ·cases h2
 ·injection hv with p1 _ p3
  injection p1 with p1
  injection p1 with p1
  subst p1; subst p3
  exact .inr ⟨g, cap, cur, rfl, a, b, by omega, d, e1, by rw [← f, List.take_take, Nat.min_eq_left (by omega)]⟩
theorem own_setCells {base e g k cap : Nat} {xs : List Value} : ∀ (vs : List Value) (o : Nat) (w : World), w.ownsRow base e 3 (.slice (some ⟨g, 0, none⟩) k cap) k xs → k * 3 ≤ o → (w.setCells g o vs).ownsRow base e 3 (.slice (some ⟨g, 0, none⟩) k cap) k xs
 | [], _, _, h, _ => h
 | v :: r, o, w, h, ho => by
  rw [World.setCells]
  refine own_setCells r (o + 1) _ ?_ (by omega)
  have := (h.stored o v).1
  rwa [List.set_eq_of_length_le (by rw [h.1]; omega)] at this
theorem grown_setCells {g : Nat} : ∀ (vs : List Value) (o : Nat) (w : World), w.grownBy (w.setCells g o vs) (some g)
 | [], _, w => ⟨rfl, rfl, rfl, Nat.le_refl _, fun _ _ _ => rfl⟩
 | v :: r, o, w => by
  rw [World.setCells]
  have h := grown_setCells (g := g) r (o + 1) (w.setCell ⟨g, o, none⟩ v)
  refine ⟨h.os, h.tape, h.output, by have := h.size; simp [World.setCell] at this ⊢, fun k hk hne => ?_⟩
  rw [h.block k (by simpa [World.setCell] using hk) hne]
  exact Below.heap_setCell w ⟨g, o, none⟩ v k (by intro e; exact hne (by rw [e]))
theorem grown_trans {a b c : World} {g : Nat} (h : a.grownBy b (some g)) (k : b.grownBy c (some g)) : a.grownBy c (some g) :=
 ⟨k.os.trans h.os, k.tape.trans h.tape, k.output.trans h.output, Nat.le_trans h.size k.size, fun j hj hne => (k.block j (Nat.lt_of_lt_of_le hj h.size) hne).trans (h.block j hj hne)⟩
theorem zero_len (n : Nat) : (Builtin.zeroCells #[.int .i64 0, .int .i64 0, .bool false] n).toList.length = n * 3 := by simp [Builtin.zeroCells]
theorem zero_cell (n : Nat) : ∀ v ∈ (Builtin.zeroCells #[.int .i64 0, .int .i64 0, .bool false] n).toList, v.oneCell' = true := by
 intro v hv
 simp only [Builtin.zeroCells, Array.toList_map, Array.toList_range, List.mem_map, List.mem_range] at hv
 obtain ⟨i, hi, rfl⟩ := hv
 have h3 : i % 3 = 0 ∨ i % 3 = 1 ∨ i % 3 = 2 := by omega
 rcases h3 with h | h | h <;> (simp only [List.size_toArray, List.length_cons, List.length_nil, Nat.zero_add, Nat.reduceAdd, h]; rfl)
theorem run_clear (w : World) (ty : TypeId) (g o n c : Nat) (hn : 0 < n) (hc : ∀ j, j < n * 3 → (w.cell? ⟨g, o + j, none⟩).isSome = true) (hf : ∀ j, j < n * 3 → w.frozen? ⟨g, o + j, none⟩ = false) :
  (Builtin.clear_ #[27] ty #[.slice (some ⟨g, o, none⟩) n c]).run Tryz.prog w = .ok (.tuple #[]) (w.setCells g o (Builtin.zeroCells #[.int .i64 0, .int .i64 0, .bool false] n).toList) := by
 have hst := run_storeCells_cells (P := Tryz.prog) g o (Builtin.zeroCells #[.int .i64 0, .int .i64 0, .bool false] n).toList 0 w (by rw [zero_len]; simpa using hc) (by rw [zero_len]; simpa using hf) (zero_cell n)
 simp only [Nat.add_zero] at hst
 obtain ⟨m, rfl⟩ : ∃ m, n = m + 1 := ⟨n - 1, by omega⟩
 simp [Builtin.clear_, run_underlying Tryz.underlying27, Tryz.zeroValue63, Value.cells, hst]
theorem own_at {w : World} {base g n cap : Nat} {R : List Dm} (h : w.ownsRow base 63 3 (.slice (some ⟨g, 0, none⟩) n cap) n (rowM R)) {j : Nat} {d : Dm} (hd : R[j]? = some d) (q : Nat) (hq : q = j * 3) :
  w.cell? ⟨g, q, none⟩ = some (.int .i64 d.1) ∧ w.cell? ⟨g, q + 1, none⟩ = some (.int .i64 d.2.1) ∧ w.cell? ⟨g, q + 2, none⟩ = some (.bool d.2.2) := by
 subst hq
 obtain ⟨h1, h2, h3⟩ := rowM_at R j d hd
 have hl := h.1
 have hlen := rowM_length R
 have hj := (List.getElem?_eq_some_iff.1 hd).1
 exact ⟨(h.cellAt _ (by omega)).trans h1, (h.cellAt _ (by omega)).trans h2, (h.cellAt _ (by omega)).trans h3⟩
theorem own_put {w : World} {base g n cap : Nat} {R : List Dm} (h : w.ownsRow base 63 3 (.slice (some ⟨g, 0, none⟩) n cap) n (rowM R)) {C D : List Dm} {p q : Dm} (hR : R = C ++ p :: D) :
  (((w.setCell ⟨g, C.length * 3, none⟩ (.int .i64 q.1)).setCell ⟨g, C.length * 3 + 1, none⟩ (.int .i64 q.2.1)).setCell ⟨g, C.length * 3 + 2, none⟩ (.bool q.2.2)).ownsRow base 63 3 (.slice (some ⟨g, 0, none⟩) n cap) n (rowM (C ++ q :: D)) := by
 subst hR
 obtain ⟨h, _⟩ := h.stored (C.length * 3) (.int .i64 q.1)
 obtain ⟨h, _⟩ := h.stored (C.length * 3 + 1) (.int .i64 q.2.1)
 obtain ⟨h, _⟩ := h.stored (C.length * 3 + 2) (.bool q.2.2)
 rwa [rowM_put C p q D C.length rfl] at h
theorem grown_put {w : World} {g : Nat} (o : Nat) (v : Value) : w.grownBy (w.setCell ⟨g, o, none⟩ v) (some g) :=
 ⟨rfl, rfl, rfl, by simp [World.setCell], fun k hk hne => Below.heap_setCell w ⟨g, o, none⟩ v k (by intro e; exact hne (by rw [e]))⟩
theorem grown_drew {w W : World} {g : Nat} (h : w.grownBy W (some g)) : w.grownBy W.drew (some g) := ⟨h.os, h.tape, h.output, h.size, h.block⟩
set_option maxRecDepth 100000 in
set_option maxHeartbeats 4000000 in
theorem compactCall (w : World) (base g n cap : Nat) (M : List Dm) (hnb : n ≤ 2000000) (hown : w.ownsRow base 63 3 (.slice (some ⟨g, 0, none⟩) n cap) n (rowM M)) :
  Calls Tryz.prog 145 #[.slice (some ⟨g, 0, none⟩) n cap] w fun e w' =>
   ∃ m : Nat, e = .returned (.slice (some ⟨g, 0, none⟩) m cap) ∧ m = (cmpT M n).length ∧ w'.ownsRow base 63 3 (.slice (some ⟨g, 0, none⟩) m cap) m (rowM (cmpT M n)) ∧ w.grownBy w' (some g) := by
 have hlen : M.length = n := by have := hown.1; rw [rowM_length] at this; omega
 have hcap : n ≤ cap := by
  rcases hown.2 with ⟨h, _⟩ | ⟨g', cap', cur, h, hg, hh, h1, h2, h3, _⟩
  ·cases h
  ·injection h with ha _ hc
   subst hc; exact h1
 have HL := Lh hlen
 have HQ := Lh hown
 have HG0 : w.grownBy w (some g) := World.grownBy.refl w _
 by_cases h2 : n < 2
 ·have HE := Lh (show cmpT M n = M by
   rw [cmpT_all (by omega) (fun i h0 hi hm => by omega), ← hlen, List.take_length])
  have h3 : (n : Int) < 2 := by omega
  clear hown hlen
  go_enter Tryz.func145, Tryz.ntmps145
  go_wp2
  go_ret
  exact ⟨n, rfl, by rw [HE.out]; exact HL.out.symm, by rw [HE.out]; exact HQ.out, HG0⟩
 ·have h3 : ¬ (n : Int) < 2 := by omega
  clear hown hlen
  go_enter Tryz.func145, Tryz.ntmps145
  go_wp2_with fail
  go_loopw [3] (fun i wr => ∃ k q : Nat, 1 ≤ k ∧ k ≤ n ∧ i = .int .i64 k ∧ wr = w.drewN q ∧ Hid (cmpT M k = M.take k)) (fun i _ => n - (intOf i).toNat)
  case atStart => exact ⟨1, 0, Nat.le_refl _, by omega, rfl, rfl, Lh (cmpT_all (by have := HL.out; omega) (fun i h0 hi hm => by omega))⟩
  case round =>
   obtain ⟨k, q, hk1, hk, rfl, rfl, hA⟩ := hrel
   by_cases hlt : k < n
   ·have hkl : k < M.length := by have := HL.out; omega
    obtain ⟨kp, hkp⟩ : ∃ kp, k = kp + 1 := ⟨k - 1, by omega⟩
    have hpl : kp < M.length := by omega
    have h1 := fun (W : World) (h : W.ownsRow base 63 3 (.slice (some ⟨g, 0, none⟩) n cap) n (rowM M)) => own_at h (List.getElem?_eq_getElem hkl) (k * 3) rfl
    have h0 := fun (W : World) (h : W.ownsRow base 63 3 (.slice (some ⟨g, 0, none⟩) n cap) n (rowM M)) => own_at h (List.getElem?_eq_getElem hpl) (kp * 3) rfl
    have hkeep := fun h => cmpT_keep hkl (.inr h)
    have hskip := cmpT_skip (M := M) hkl (by omega)
    simp only [show k - 1 = kp by omega] at hkeep hskip
    have HD := Lh (show M[k]? = some M[k] from List.getElem?_eq_getElem hkl)
    have HTk := Lh (show M.take (k + 1) = M.take k ++ [M[k]] from List.take_succ_eq_append_getElem hkl)
    generalize M[k] = d at h1 hkeep hskip HD HTk
    generalize M[kp] = p at h0 hkeep hskip
    obtain ⟨x, y, b⟩ := d
    obtain ⟨u, v, c⟩ := p
    obtain ⟨c0, c1, c2⟩ := h1 _ HQ.out
    obtain ⟨d0, d1, d2⟩ := h0 _ HQ.out
    simp only at c0 c1 c2 d0 d1 d2
    have hwr : IntKind.i64.wrap ((k : Int) - 1) = (kp : Int) := by rw [IntKind.wrap_i64]; omega
    have hkpn : (kp : Int) < (n : Int) := by omega
    have HKP := Lh hkp
    clear h1 h0 hkp
    by_cases he : x = u ∧ y = v ∧ b = c
    ·obtain ⟨rfl, rfl, rfl⟩ := he
     have HS := Lh (hskip rfl)
     clear hskip hkeep
     go_upto_region 6 with fail
     refine wp_region_noPanic ?_
     refine wp_region_held_drew (S := (fun w' => w'.cell? ⟨g, k * 3, none⟩ = some (.int .i64 x) ∧ w'.cell? ⟨g, k * 3 + 1, none⟩ = some (.int .i64 y) ∧ w'.cell? ⟨g, k * 3 + 2, none⟩ = some (.bool b) ∧ w'.cell? ⟨g, kp * 3, none⟩ = some (.int .i64 x) ∧ w'.cell? ⟨g, kp * 3 + 1, none⟩ = some (.int .i64 y) ∧ w'.cell? ⟨g, kp * 3 + 2, none⟩ = some (.bool b))) (by kernel_rfl) (⟨c0, c1, c2, d0, d1, d2⟩) (fun hHeld => ?_)
     refine tka 0 ?_; try simp only [Act.put, zk]
     refine tka 1 ?_; try simp only [Act.put, zk]
     refine tka 2 ?_; try simp only [Act.put, zk]
     refine tka 3 ?_; try simp only [Act.put, zk]
     refine tka 4 ?_; try simp only [Act.put, zk]
     refine tka 5 ?_; try simp only [Act.put, zk]
     refine tka 6 ?_; try simp only [Act.put, zk]
     refine tka 7 ?_; try simp only [Act.put, zk]
     refine tka 8 ?_; try simp only [Act.put, zk]
     refine tka 9 ?_; try simp only [Act.put, zk]
     refine wpAnyH_done (by kernel_rfl) (NoPanic.normal ?_) _
     clear hHeld hwr hkpn c0 c1 c2 d0 d1 d2
     have hcp : ¬ (cap = k) := by omega
     have hcp2 : (k : Int) ≤ (n : Int) := by omega
     have hcp3 : (n : Int) ≤ (cap : Int) := by omega
     have HO1 := Lh (show (w.drewN q).drew.ownsRow base 63 3 (.slice (some ⟨g, 0, none⟩) n cap) n (rowM (cmpT M (k + 1) ++ M.drop k)) by
      rw [HS.out, hA.out, List.take_append_drop]; exact HQ.out)
     have HG1 : w.grownBy (w.drewN q).drew (some g) := ⟨rfl, rfl, rfl, Nat.le_refl _, fun _ _ _ => rfl⟩
     have HK1 := Lh (show (cmpT M (k + 1)).length = k by rw [HS.out, hA.out, List.length_take]; omega)
     clear HS
     generalize (w.drewN q).drew = W1 at HO1 HG1 ⊢
     go_wp2_with fail
     go_loopw [3, 5] (fun a i wr => ∃ kk k2 : Nat, a = .int .i64 kk ∧ i = .int .i64 k2 ∧ 1 ≤ k2 ∧ k + k2 ≤ n ∧ kk + 1 ≤ k + k2 ∧ kk = (cmpT M (k + k2)).length ∧ wr.ownsRow base 63 3 (.slice (some ⟨g, 0, none⟩) n cap) n (rowM (cmpT M (k + k2) ++ M.drop kk)) ∧ w.grownBy wr (some g)) (fun _ i _ => n - (k + (intOf i).toNat))
     case atStart => exact ⟨k, 1, rfl, rfl, Nat.le_refl _, by omega, by omega, HK1.out.symm, HO1.out, HG1⟩
     case round =>
      clear HO1 HG1 HK1
      obtain ⟨kk, k2, rfl, rfl, hk21, hk2n, hkkn, hkk, hown, hgr⟩ := hrel
      by_cases hlt2 : k + k2 < n
      ·have hml : k + k2 < M.length := by have := HL.out; omega
       have hkkM : kk < M.length := by omega
       obtain ⟨k3, hk3⟩ : ∃ k3, k2 = k3 + 1 := ⟨k2 - 1, by omega⟩
       have hpl2 : k + k3 < M.length := by omega
       have a1 : (cmpT M (k + k2) ++ M.drop kk)[k + k2]? = some M[k + k2] := by
        rw [List.getElem?_append_right (by omega), ← hkk, List.getElem?_drop, show kk + (k + k2 - kk) = k + k2 by omega]; exact List.getElem?_eq_getElem hml
       have a2 : (cmpT M (k + k2) ++ M.drop kk)[k + k3]? = some M[k + k3] := by
        rw [List.getElem?_append_right (by omega), ← hkk, List.getElem?_drop, show kk + (k + k3 - kk) = k + k3 by omega]; exact List.getElem?_eq_getElem hpl2
       have hdr : M.drop kk = M[kk]'hkkM :: M.drop (kk + 1) := List.drop_eq_getElem_cons hkkM
       have e1 := own_at hown a1 (k * 3 + k2 * 3) (by omega)
       have e2 := own_at hown a2 (k * 3 + k3 * 3) (by omega)
       have hkeep := fun h => cmpT_keep hml (.inr h)
       have hskip := cmpT_skip (M := M) hml (by omega)
       simp only [show k + k2 - 1 = k + k3 by omega] at hkeep hskip
       generalize M[k + k2] = d at e1 hkeep hskip
       generalize M[k + k3] = p at e2 hkeep hskip
       obtain ⟨xx, yy, bb⟩ := d
       obtain ⟨uu, vv, cc⟩ := p
       obtain ⟨c0, c1, c2⟩ := e1
       obtain ⟨d0, d1, d2⟩ := e2
       simp only at c0 c1 c2 d0 d1 d2
       have hwr : IntKind.i64.wrap ((k2 : Int) - 1) = (k3 : Int) := by rw [IntKind.wrap_i64]; omega
       have hk2i : (k2 : Int) < ((n - k : Nat) : Int) := by omega
       have hk3i : (k3 : Int) < ((n - k : Nat) : Int) := by omega
       have HK3 := Lh hk3
       clear hk3 a1 a2
       by_cases he : xx = uu ∧ yy = vv ∧ bb = cc
       ·obtain ⟨rfl, rfl, rfl⟩ := he
        have HS := Lh (hskip rfl)
        have HO2 := Lh hown
        clear hskip hkeep hown hdr
        go_upto_region 11 with fail
        refine wp_region_noPanic ?_
        refine wp_region_held_drew (S := (fun w' => w'.cell? ⟨g, k * 3 + k2 * 3, none⟩ = some (.int .i64 xx) ∧ w'.cell? ⟨g, k * 3 + k2 * 3 + 1, none⟩ = some (.int .i64 yy) ∧ w'.cell? ⟨g, k * 3 + k2 * 3 + 2, none⟩ = some (.bool bb) ∧ w'.cell? ⟨g, k * 3 + k3 * 3, none⟩ = some (.int .i64 xx) ∧ w'.cell? ⟨g, k * 3 + k3 * 3 + 1, none⟩ = some (.int .i64 yy) ∧ w'.cell? ⟨g, k * 3 + k3 * 3 + 2, none⟩ = some (.bool bb))) (by kernel_rfl) (⟨c0, c1, c2, d0, d1, d2⟩) (fun hHeld => ?_)
        refine tka 0 ?_; try simp only [Act.put, zk]
        refine tka 1 ?_; try simp only [Act.put, zk]
        refine tka 2 ?_; try simp only [Act.put, zk]
        refine tka 3 ?_; try simp only [Act.put, zk]
        refine tka 4 ?_; try simp only [Act.put, zk]
        refine tka 5 ?_; try simp only [Act.put, zk]
        refine tka 6 ?_; try simp only [Act.put, zk]
        refine tka 7 ?_; try simp only [Act.put, zk]
        refine tka 8 ?_; try simp only [Act.put, zk]
        refine tka 9 ?_; try simp only [Act.put, zk]
        refine wpAnyH_done (by kernel_rfl) (NoPanic.normal ?_) _
        clear hHeld hwr c0 c1 c2 d0 d1 d2
        go_wp2
        go_roundw
        case rel => exact ⟨kk, k2 + 1, rfl, by go_num, by omega, by omega, by omega, by rw [← Nat.add_assoc, HS.out]; exact hkk, by rw [← Nat.add_assoc, HS.out]; exact HO2.out, grown_drew hgr⟩
        case measure => (simp [intOf] <;> omega)
       ·have HR := Lh (fun a o t1 t2 w' => neC_run he a o t1 t2 w')
        have HS := Lh (hkeep (by intro e; injection e with e1 e; injection e with e2 e3; exact he ⟨e1, e2, e3⟩))
        clear hskip hkeep he
        have hu : ∀ m, m < n * 3 → ∃ u, wr.drew.cell? ⟨g, m, none⟩ = some u := fun m hm => by
         have hlen := hown.1
         show ∃ u, wr.cell? _ = _
         rw [hown.cellAt m (by omega)]; exact ⟨_, List.getElem?_eq_getElem (by omega)⟩
        obtain ⟨u0, hu0⟩ := hu (kk * 3) (by omega)
        obtain ⟨u1, hu1⟩ := hu (kk * 3 + 1) (by omega)
        obtain ⟨u2, hu2⟩ := hu (kk * 3 + 2) (by omega)
        have hf0 : wr.drew.frozen? ⟨g, kk * 3, none⟩ = false := hown.frozenAt (kk * 3)
        have hf1 : wr.drew.frozen? ⟨g, kk * 3 + 1, none⟩ = false := hown.frozenAt (kk * 3 + 1)
        have hf2 : wr.drew.frozen? ⟨g, kk * 3 + 2, none⟩ = false := hown.frozenAt (kk * 3 + 2)
        have hst := own_put (q := (xx, yy, bb)) (show wr.drew.ownsRow base 63 3 (.slice (some ⟨g, 0, none⟩) n cap) n (rowM (cmpT M (k + k2) ++ M.drop kk)) from hown) (by rw [hdr])
        rw [← hkk] at hst
        simp only at hst
        have R := Lh hst
        have HG2 := Lh (grown_trans (grown_trans (grown_trans (grown_drew hgr) (grown_put (kk * 3) (.int .i64 xx))) (grown_put (kk * 3 + 1) (.int .i64 yy))) (grown_put (kk * 3 + 2) (.bool bb)))
        have hkki : (kk : Int) < (n : Int) := by omega
        have hc0 : wr.drew.cell? ⟨g, k * 3 + k2 * 3, none⟩ = some (.int .i64 xx) := c0
        have hc1 : wr.drew.cell? ⟨g, k * 3 + k2 * 3 + 1, none⟩ = some (.int .i64 yy) := c1
        have hc2 : wr.drew.cell? ⟨g, k * 3 + k2 * 3 + 2, none⟩ = some (.bool bb) := c2
        have HKI := Lh hkk
        clear hown hst hu hgr hdr hkk
        go_upto_region 11 with fail
        refine wp_region_noPanic ?_
        refine wp_region_held_drew (S := (fun w' => w'.cell? ⟨g, k * 3 + k2 * 3, none⟩ = some (.int .i64 xx) ∧ w'.cell? ⟨g, k * 3 + k2 * 3 + 1, none⟩ = some (.int .i64 yy) ∧ w'.cell? ⟨g, k * 3 + k2 * 3 + 2, none⟩ = some (.bool bb) ∧ w'.cell? ⟨g, k * 3 + k3 * 3, none⟩ = some (.int .i64 uu) ∧ w'.cell? ⟨g, k * 3 + k3 * 3 + 1, none⟩ = some (.int .i64 vv) ∧ w'.cell? ⟨g, k * 3 + k3 * 3 + 2, none⟩ = some (.bool cc))) (by kernel_rfl) (⟨c0, c1, c2, d0, d1, d2⟩) (fun hHeld => ?_)
        refine tka 0 ?_; try simp only [Act.put, zk]
        refine tka 1 ?_; try simp only [Act.put, zk]
        refine tka 2 ?_; try simp only [Act.put, zk]
        refine tka 3 ?_; try simp only [Act.put, zk]
        refine tka 4 ?_; try simp only [Act.put, zk]
        refine tka 5 ?_; try simp only [Act.put, zk]
        refine tka 6 ?_; try simp only [Act.put, zk]
        refine tka 7 ?_; try simp only [Act.put, zk]
        refine tka 8 ?_; try simp only [Act.put, zk]
        refine wpAnyH_take (i := 9) (v := .bool true) rfl (by kernel_rfl) (by kernel_rfl) (by kernel_rfl) (fun _ _ _ h => h) (Or.inl ⟨by rfl, fun w' hS => HR.out _ _ _ _ w' rfl (by kernel_rfl) (by kernel_rfl)⟩) (by assumption) ?_
        try simp only [Act.put, zk]
        refine wpAnyH_done (by kernel_rfl) (NoPanic.normal ?_) _
        clear hHeld hwr c0 c1 c2 d0 d1 d2 HR
        generalize wr.drew = W2 at hu0 hu1 hu2 hf0 hf1 hf2 R HG2 hc0 hc1 hc2 ⊢
        go_wp2
        go_roundw
        case rel => exact ⟨kk + 1, k2 + 1, by go_num, by go_num, by omega, by omega, by omega, by rw [← Nat.add_assoc, HS.out, List.length_append, ← HKI.out]; rfl, by rw [← Nat.add_assoc, HS.out, List.append_assoc]; exact R.out, HG2.out⟩
        case measure => (simp [intOf] <;> omega)
      ·have hend : k + k2 = n := by omega
       rw [hend] at hown hkk
       have hcut := own_cut hown (k := kk) (by omega)
       have htk : (rowM (cmpT M n ++ M.drop kk)).take (kk * 3) = rowM (cmpT M n) := by
        rw [rowM_app, hkk, ← rowM_length, List.take_left]
       rw [htk] at hcut
       have hcl := fun ty => run_clear wr ty g (kk * 3) (n - kk) (cap - kk) (by omega) (fun j hj => by
        have hlen := hown.1
        rw [hown.cellAt (kk * 3 + j) (by omega), List.getElem?_eq_getElem (by omega)]; rfl) (fun j hj => hown.frozenAt (kk * 3 + j))
       have HR := Lh (own_setCells (Builtin.zeroCells #[.int .i64 0, .int .i64 0, .bool false] (n - kk)).toList (kk * 3) wr hcut NR)
       have HGF := Lh (grown_trans hgr (grown_setCells (g := g) (Builtin.zeroCells #[.int .i64 0, .int .i64 0, .bool false] (n - kk)).toList (kk * 3) wr))
       have hkc : ¬ (cap = kk) := by omega
       have hkc2 : (kk : Int) ≤ (n : Int) := by omega
       have hkc3 : (kk : Int) ≤ (cap : Int) := by omega
       have HKK := Lh hkk
       generalize (Builtin.zeroCells #[.int .i64 0, .int .i64 0, .bool false] (n - kk)).toList = zs at hcl HR HGF
       clear hown hcut htk hgr hkk
       go_wp2
       go_ret
       exact ⟨kk, rfl, HKK.out, HR.out, HGF.out⟩
    ·have HR := Lh (fun a o t1 t2 w' => eqC_run he a o t1 t2 w')
     have HS := Lh (hkeep (by intro e; injection e with e1 e; injection e with e2 e3; exact he ⟨e1, e2, e3⟩))
     clear hskip hkeep he
     go_upto_region 6 with fail
     refine wp_region_noPanic ?_
     refine wp_region_held_drew (S := (fun w' => w'.cell? ⟨g, k * 3, none⟩ = some (.int .i64 x) ∧ w'.cell? ⟨g, k * 3 + 1, none⟩ = some (.int .i64 y) ∧ w'.cell? ⟨g, k * 3 + 2, none⟩ = some (.bool b) ∧ w'.cell? ⟨g, kp * 3, none⟩ = some (.int .i64 u) ∧ w'.cell? ⟨g, kp * 3 + 1, none⟩ = some (.int .i64 v) ∧ w'.cell? ⟨g, kp * 3 + 2, none⟩ = some (.bool c))) (by kernel_rfl) (⟨c0, c1, c2, d0, d1, d2⟩) (fun hHeld => ?_)
     refine tka 0 ?_; try simp only [Act.put, zk]
     refine tka 1 ?_; try simp only [Act.put, zk]
     refine tka 2 ?_; try simp only [Act.put, zk]
     refine tka 3 ?_; try simp only [Act.put, zk]
     refine tka 4 ?_; try simp only [Act.put, zk]
     refine tka 5 ?_; try simp only [Act.put, zk]
     refine tka 6 ?_; try simp only [Act.put, zk]
     refine tka 7 ?_; try simp only [Act.put, zk]
     refine tka 8 ?_; try simp only [Act.put, zk]
     refine wpAnyH_take (i := 9) (v := .bool false) rfl (by kernel_rfl) (by kernel_rfl) (by kernel_rfl) (fun _ _ _ h => h) (Or.inl ⟨by rfl, fun w' hS => HR.out _ _ _ _ w' rfl (by kernel_rfl) (by kernel_rfl)⟩) (by assumption) ?_
     try simp only [Act.put, zk]
     refine wpAnyH_done (by kernel_rfl) (NoPanic.normal ?_) _
     clear hHeld hwr hkpn c0 c1 c2 d0 d1 d2 HR
     go_wp2
     go_roundw
     case rel => exact ⟨k + 1, q + 1, by omega, by omega, by go_num, rfl, Lh (by rw [HS.out, hA.out, HTk.out])⟩
     case measure => (simp [intOf] <;> omega)
   ·obtain rfl : k = n := by omega
    have HE := Lh (show cmpT M k = M by rw [hA.out, ← HL.out, List.take_length])
    go_wp2
    go_ret
    exact ⟨k, rfl, by rw [HE.out]; exact HL.out.symm, by rw [HE.out]; exact HQ.out, ⟨rfl, rfl, rfl, Nat.le_refl _, fun _ _ _ => rfl⟩⟩
end Go.Proofs.YtmajllgfmclcoaaGreatDoor.Cmp
namespace Go.Proofs.YtmajllgfmclcoaaGreatDoor.Til
open Go.RowKit Dom Dms Go.Joins
open Reg hiding add_none
def vld (L : List Dm) (j : Nat) : List Dm := (L.take j).filter okM
theorem vld_yes {L : List Dm} {j : Nat} (hj : j < L.length) (h : okM L[j] = true) : vld L (j + 1) = vld L j ++ [L[j]] := by
 unfold vld; rw [List.take_succ_eq_append_getElem hj, List.filter_append]; simp [h]
theorem vld_no {L : List Dm} {j : Nat} (hj : j < L.length) (h : okM L[j] = false) : vld L (j + 1) = vld L j := by
 unfold vld; rw [List.take_succ_eq_append_getElem hj, List.filter_append]; simp [h]
theorem vld_length (L : List Dm) (j : Nat) : (vld L j).length ≤ j := by
 unfold vld; exact Nat.le_trans (List.length_filter_le _ _) (by rw [List.length_take]; omega)
set_option maxRecDepth 100000 in
set_option maxHeartbeats 2000000 in
theorem inOrder (w : World) (A : Option Addr) (n cap B : Nat) (L : List Dm) (hL : L.length = n) (hn : (n : Int) ≤ 1048576) (hf : Fits L) (h : RowM w B A L) (hB : B ≤ w.heap.size) :
  Calls Tryz.prog 130 #[.slice A n cap] w (DmPost (sortM L) (sortM L).length w) := by
 obtain ⟨i0, hi, hz0, hz1, hz2⟩ := info_parts domInfo
 obtain ⟨b0, off, h1, h2⟩ := h.at
 have HA := Lh (fun hp => h1 hp)
 have HC := Lh h2
 have HL := Lh hL
 have HF := Lh hf
 have HB := Lh hB
 clear h h1 h2 hL hf hB
 go_enter Tryz.func130, Tryz.ntmps130
 go_wp2_with (first
  | (at_make; refine wpList_make_own _ rfl _ _ 27 rfl w.heap.size 63 i0 (.agg #[.int .i64 0, .int .i64 0, .bool false]) 3 Tryz.underlying27 hi hz0 hz1 .i64 .i64 (n : Int) n rfl rfl rfl (by rw [hz2]; omega) (by unfold maxLen; omega) NR ?_; intro w1 hown1 hg1))
 have hb1 : Below w.heap.size w w1 := (Below.refl _ _).grown hg1 (by omega) (by simp)
 have HO := Lh hown1
 clear hown1 hg1
 go_loopw [3, 11] (fun v i wr => ∃ j k : Nat, j ≤ n ∧ i = .int .i64 j ∧ v = .slice (some ⟨w.heap.size, 0, none⟩) k n ∧ k = (vld L j).length ∧ wr.ownsRow w.heap.size 63 3 (.slice (some ⟨w.heap.size, 0, none⟩) k n) k (rowM (vld L j)) ∧ Below w.heap.size w wr) (fun _ i _ => n - (intOf i).toNat)
 case atStart => exact ⟨0, 0, Nat.zero_le _, rfl, rfl, by simp [vld], by simpa [vld, rowM] using HO.out, hb1⟩
 case round =>
  clear HO hb1
  obtain ⟨j, k, hj, rfl, rfl, hk, hown, hb⟩ := hrel
  have hbs := hb.size
  by_cases hlt : j < n
  ·have hjL : j < L.length := by have := HL.out; omega
   obtain ⟨rfl, hbB⟩ := HA.out (by omega)
   obtain ⟨c0, c1, c2⟩ := HC.out j hjL
   have hbw : b0 < w.heap.size := by have := HB.out; omega
   have c0 := (hb.cell (p := ⟨b0, off + j * 3, none⟩) hbw).trans c0
   have c1 := (hb.cell (p := ⟨b0, off + j * 3 + 1, none⟩) hbw).trans c1
   have c2 := (hb.cell (p := ⟨b0, off + j * 3 + 2, none⟩) hbw).trans c2
   obtain ⟨f1, f2⟩ := HF.out L[j] (List.getElem_mem hjL)
   have HY := Lh (fun h => vld_yes (L := L) hjL h)
   have HN := Lh (fun h => vld_no (L := L) hjL h)
   generalize L[j] = d at c0 c1 c2 f1 f2 HY HN
   obtain ⟨x, y, b⟩ := d
   simp only [okM] at c0 c1 c2 f1 f2 HY HN
   have HD := Lh (fun W => iDominoOk x y b f1 f2 W)
   generalize domB x y b = p at HD HY HN
   have hkj : k ≤ j := by rw [hk]; exact vld_length L j
   have HK := Lh hk
   have HOwn := Lh hown
   have HBw := Lh hb
   clear f1 f2 hk hown hb
   go_wp2_with fail
   refine (HD.out _).mono ?_
   rintro e w2 ⟨rfl, hb2⟩
   obtain ⟨hE, K1⟩ := bx3 x y b wr w2 hb2
   have hown2 := Reg.own_below HOwn.out hE NR
   have hB2 := HBw.out.trans (hE.mono hbs)
   have hs2 := hE.size
   clear hb2 HOwn HBw HD hE
   cases p with
   | false =>
    have HE := Lh (HN.out (by first | rfl | trivial))
    have HO2 := Lh hown2
    clear hown2 HY HN K1 c0 c1 c2
    go_wp2
    go_roundw
    case rel => exact ⟨j + 1, k, by omega, by go_num, rfl, by rw [HE.out]; exact HK.out, by rw [HE.out]; exact HO2.out, hB2⟩
    case measure => (simp [intOf] <;> omega)
   | true =>
    have HE := Lh (HY.out (by first | rfl | trivial))
    have d0 := K1.c0
    have d1 := K1.c1
    have d2 := K1.c2
    have HO2 := Lh hown2
    clear hown2 HY HN K1 c0 c1 c2
    go_wp2_with (first
     | (at_builtin; refine wpList_append_fits _ rfl _ _ 27 rfl w.heap.size 63 i0 3 Tryz.underlying27 hi hz1 w.heap.size k n (rowM (vld L j)) (by rfl) (HO2.out.alloc _) ⟨w2.heap.size, 0, none⟩ 1 1 [.int .i64 x, .int .i64 y, .bool b] (by rfl) rfl (World.news_of_block (cs := #[.int .i64 x, .int .i64 y, .bool b]) (t := 63) (fr := (0, 0)) (heap_alloc_new w2 _)) (by simp [Value.oneCell']) (by omega) ?_; intro w3 hown3 hgrow))
    have hb3 : Below w.heap.size w w3 := (hB2.alloc (by omega) _).grown hgrow (by simp; omega) (fun g hg => by have hg2 : w.heap.size = g := by { injection hg }; omega)
    have R := Lh (show w3.ownsRow w.heap.size 63 3 (.slice (some ⟨w.heap.size, 0, none⟩) (k + 1) n) (k + 1) (rowM (vld L (j + 1))) by
     rw [HE.out, rowM_snoc]; exact hown3)
    clear hown3 hgrow
    go_wp2
    go_roundw
    case rel => exact ⟨j + 1, k + 1, by omega, by go_num, by go_num, by rw [HE.out, List.length_append, ← HK.out]; rfl, R.out, hb3⟩
    case measure => (simp [intOf] <;> omega)
  ·obtain rfl : j = n := by omega
   have hkj : k ≤ j := by rw [hk]; exact vld_length L j
   have hvl : vld L j = L.filter okM := by unfold vld; rw [← HL.out, List.take_length]
   have HSo := Lh (Srt.sortCall wr w.heap.size w.heap.size k j (vld L j) (by omega) (fun d hd => by rw [hvl] at hd; exact (List.mem_filter.1 hd).2) hown)
   have HV := Lh hvl
   have HK := Lh hk
   have HBw := Lh hb
   clear hvl hk hown hb
   go_wp2_with fail
   refine HSo.out.mono ?_
   rintro e w2 ⟨rfl, M, hs, hp, hown2, hg2⟩
   have hb2 := HBw.out.grown hg2 hbs (fun g hg => by injection hg with hg; omega)
   have hml : M.length = k := by rw [hp.length_eq]; exact HK.out.symm
   have HCo := Lh (Cmp.compactCall w2 w.heap.size w.heap.size k j M (by omega) hown2)
   have HE := Lh (show Cmp.cmpT M k = sortM L by rw [← hml]; exact Cmp.cmpT_sort hs (by rw [← HV.out]; exact hp))
   clear HSo hown2 hg2 hs hp hml HBw
   go_wp2_with fail
   refine HCo.out.mono ?_
   rintro e w3 ⟨m, rfl, hm, hown3, hg3⟩
   have hb3 := hb2.grown hg3 hb2.size (fun g hg => by injection hg with hg; omega)
   rw [HE.out] at hm hown3
   have HO3 := Lh hown3
   have HM := Lh hm
   clear hown3 hm hg3 hb2 HCo
   go_wp2
   go_ret
   rw [← HM.out]
   refine ⟨_, _, rfl, ?_, HO3.out, hb3⟩
   rcases HO3.out.2 with ⟨h, _⟩ | ⟨g', cap', cur, h, hg, hh, h1, _⟩
   ·cases h
   ·injection h with _ _ hc
    subst hc; exact h1
set_option maxHeartbeats 1000000 in
theorem iSortDominoes (w : World) (A : Option Addr) (n cap B : Nat) (L : List Dm) (hL : L.length = n) (hn : (n : Int) ≤ 1048576) (hf : Fits L) (h : RowM w B A L) (hB : B ≤ w.heap.size) :
  Calls Tryz.prog 106 #[.slice A n cap] w (DmPost (sortM L) (sortM L).length w) := by
 have HO := Lh (inOrder w A n cap B L hL hn hf h hB)
 generalize sortM L = S at HO ⊢
 clear hL hn hf h hB
 go_enter Tryz.func106, Tryz.ntmps106
 go_wp2_with fail
 refine HO.out.mono ?_
 rintro e w1 ⟨A1, cap1, rfl, hc, hown, hb⟩
 have H := Lh hown
 clear hown HO
 go_wp2
 go_ret
 exact ⟨A1, cap1, rfl, hc, H.out, hb⟩
end Go.Proofs.YtmajllgfmclcoaaGreatDoor.Til
