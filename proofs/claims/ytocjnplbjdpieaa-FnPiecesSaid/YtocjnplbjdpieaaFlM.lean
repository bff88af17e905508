/- The marks of a flood, in memory: which are set, one more; the program's look at one. -/
import Derived.Test.YtocjnplbjdpieaaFlo
import Derived.Test.YtocjnplbjdpieaaRegL2
import Derived.Test.YtocjnplbjdpieaaRegCel
namespace Go.Proofs.Ytocjnplbjdpieaa.Flo
set_option linter.unusedVariables false
open Go.RowKit Go.Proofs.Ytocjnplbjdpieaa.Base Go.Proofs.Ytocjnplbjdpieaa.Pure Go.Proofs.Ytocjnplbjdpieaa.Cell Go.Proofs.Ytocjnplbjdpieaa.Reg Go.Joins

/-- the marks in the block b. -/
def Mks (W : World) (b : Nat) (M : Nat → Bool) : Prop := ∃ cs t, W.heap[b]? = some (.cells cs t (0, 0)) ∧ cs.size = 100 ∧ ∀ v, v < 100 → cs[v]? = some (.bool (M v))
theorem Mks.lt {W : World} {b : Nat} {M : Nat → Bool} (h : Mks W b M) : b < W.heap.size := by
  obtain ⟨cs, t, h, _⟩ := h
  exact (Array.getElem?_eq_some_iff.1 h).1
theorem Mks.cell {W : World} {b : Nat} {M : Nat → Bool} (h : Mks W b M) {v : Nat} (hv : v < 100) : W.cell? ⟨b, v, none⟩ = some (.bool (M v)) := by
  obtain ⟨cs, t, h, _, h2⟩ := h
  rw [cell_of_block h v]; exact h2 v hv
theorem Mks.frozen {W : World} {b : Nat} {M : Nat → Bool} (h : Mks W b M) (v : Nat) : W.frozen? ⟨b, v, none⟩ = false := by
  obtain ⟨cs, t, h, _⟩ := h
  exact unfrozen_of_block h v
theorem Mks.set {W : World} {b : Nat} {M : Nat → Bool} (h : Mks W b M) {v : Nat} (hv : v < 100) : Mks (W.setCell ⟨b, v, none⟩ (.bool true)) b (putM M v) := by
  obtain ⟨cs, t, h, hs, h2⟩ := h
  refine ⟨_, t, block_setCell h _, by simpa using hs, fun u hu => ?_⟩
  unfold putM
  rw [Array.getElem?_setIfInBounds]
  by_cases e : v = u
  · subst e; rw [if_pos rfl, if_pos (by omega)]; simp
  · rw [if_neg e, h2 u hu]
    have : (u == v) = false := by rw [beq_eq_false_iff_ne]; exact fun q => e q.symm
    rw [this, Bool.or_false]
theorem Mks.below {W W' : World} {b B : Nat} {M : Nat → Bool} (h : Mks W b M) (hb : Below B W W') (hB : b < B) : Mks W' b M := by
  obtain ⟨cs, t, h, r⟩ := h
  exact ⟨cs, t, (hb.block b hB).trans h, r⟩
theorem Mks.on {W W' : World} {b : Nat} {M : Nat → Bool} (h : Mks W b M) (hb : Below W.heap.size W W') : Mks W' b M := h.below hb h.lt
theorem Mks.drew {W : World} {b : Nat} {M : Nat → Bool} (h : Mks W b M) : Mks W.drew b M := h
theorem Mks.same {W : World} {b : Nat} {M M' : Nat → Bool} (h : Mks W b M) (e : ∀ v, v < 100 → M v = M' v) : Mks W b M' := by
  obtain ⟨cs, t, h, hs, h2⟩ := h
  exact ⟨cs, t, h, hs, fun v hv => by rw [h2 v hv, e v hv]⟩

theorem addr_add (b o k : Nat) : (⟨b, o, none⟩ : Addr).add k = ⟨b, o + k, none⟩ := by unfold Addr.add; split <;> simp_all
theorem rowAddr (b Y : Nat) (hY : Y < 10) (W : World) : (Instr.indexAt 63 (.pointer (some ⟨b, 0, none⟩)) (.int .i64 (Y : Int))).run Try.prog W = .ok (.pointer (some ⟨b, 10 * Y, none⟩)) W := by
  have e : Try.prog.arrayLen 63 = 10 := by kernel_rfl
  have q : (sizeOf (Try.prog.elem 63)).run Try.prog W = .ok 10 W := by go_simp
  rw [run_indexAt_array W 63 _ _ _ (by kernel_rfl), if_pos (by rw [e]; omega), q]
  show Result.ok (Value.pointer (some (_ : Addr))) W = _
  rw [addr_add]
  congr 4
  simp; omega
theorem cellAddr (b o X : Nat) (hX : X < 10) (W : World) : (Instr.indexAt 61 (.pointer (some ⟨b, o, none⟩)) (.int .i64 (X : Int))).run Try.prog W = .ok (.pointer (some ⟨b, o + X, none⟩)) W := by
  have e : Try.prog.arrayLen 61 = 10 := by kernel_rfl
  have q : (sizeOf (Try.prog.elem 61)).run Try.prog W = .ok 1 W := by go_simp
  rw [run_indexAt_array W 61 _ _ _ (by kernel_rfl), if_pos (by rw [e]; omega), q]
  show Result.ok (Value.pointer (some (_ : Addr))) W = _
  rw [addr_add]
  congr 4
  simp
set_option maxRecDepth 100000 in
set_option maxHeartbeats 1000000 in
theorem mHas (w : World) (b : Nat) (M : Nat → Bool) (h : Mks w b M) (X Y : Nat) (hX : X < 10) (hY : Y < 10) (x y : Int) (hx : x = (X : Int) - 1) (hy : y = (Y : Int) - 1) :
    Calls Try.prog 53 #[.pointer (some ⟨b, 0, none⟩), .agg #[.int .i64 x, .int .i64 y]] w (Bol (M (10 * Y + X)) w) := by
  have HBw := Lib.hid (fun (o : Obj) => below_alloc1 w o)
  have hc := fun (o : Obj) => (h.on (below_alloc1 w o)).cell (v := 10 * Y + X) (by omega)
  have hx1 : IntKind.i64.wrap (x + 1) = (X : Int) := by rw [hx, IntKind.wrap_i64]; omega
  have hy1 : IntKind.i64.wrap (y + 1) = (Y : Int) := by rw [hy, IntKind.wrap_i64]; omega
  have hx2 : wrap64 (x + 1) = (X : Int) := by rw [hx]; unfold wrap64; omega
  have hy2 : wrap64 (y + 1) = (Y : Int) := by rw [hy]; unfold wrap64; omega
  have hr := rowAddr b Y hY
  have hq := cellAddr b (10 * Y) X hX
  clear hx hy h
  go_enter Try.func53, Try.ntmps53
  go_wp2_with fail
  go_quiet (fail)
  go_wp2
  go_ret
  exact mkBol rfl (drewN_below (HBw.out _) _)
theorem mHas' (w : World) (b : Nat) (M : Nat → Bool) (h : Mks w b M) (v : Nat) (hv : v < 100) (x y : Int) (hx : x = (plC v).1) (hy : y = (plC v).2) :
    Calls Try.prog 53 #[.pointer (some ⟨b, 0, none⟩), .agg #[.int .i64 x, .int .i64 y]] w (Bol (M v) w) := by
  have := mHas w b M h (v % 10) (v / 10) (by omega) (by omega) x y hx hy
  rwa [show 10 * (v / 10) + v % 10 = v by omega] at this
end Go.Proofs.Ytocjnplbjdpieaa.Flo
