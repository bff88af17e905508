/- Slices of dominoes in memory: what lies there, a slice that comes in, two that are compared. -/
import Derived.Test.YtkjoonmnedofiaaDomL
import Derived.OwnWalk
import Derived.Laws.AppendOwn
import Derived.Deep.AppendLies
import Derived.Laws.OwnMore
import Derived.Deep.Slices
import Derived.Deep.Strs
import Derived.OpenShut
namespace Go.Proofs.Ytkjoonmnedofiaa.Dms
set_option linter.unusedVariables false
set_option linter.unusedSimpArgs false
open Go.RowKit Go.Proofs.Ytkjoonmnedofiaa.Base Go.Proofs.Ytkjoonmnedofiaa.Cell Go.Proofs.Ytkjoonmnedofiaa.Dom Go.Joins Go.ChangeShapes Go.WideShapes Go.Deep

/-- a domino, as numbers and a bool. -/
abbrev Dm := Int × Int × Bool
/-- the dominoes of a slice, as they lie in memory. -/
def rowM (L : List Dm) : List Value := L.flatMap fun d => [.int .i64 d.1, .int .i64 d.2.1, .bool d.2.2]
theorem rowM_cons (d : Dm) (L : List Dm) : rowM (d :: L) = .int .i64 d.1 :: .int .i64 d.2.1 :: .bool d.2.2 :: rowM L := rfl
theorem rowM_app (L M : List Dm) : rowM (L ++ M) = rowM L ++ rowM M := by unfold rowM; simp
theorem rowM_snoc (L : List Dm) (d : Dm) : rowM (L ++ [d]) = rowM L ++ [.int .i64 d.1, .int .i64 d.2.1, .bool d.2.2] := by rw [rowM_app]; rfl
theorem rowM_length (L : List Dm) : (rowM L).length = L.length * 3 := by
  induction L with
  | nil => rfl
  | cons d L ih => rw [rowM_cons]; simp only [List.length_cons, ih]; omega
theorem rowM_at (L : List Dm) : ∀ (j : Nat) (d : Dm), L[j]? = some d → (rowM L)[j * 3]? = some (.int .i64 d.1) ∧ (rowM L)[j * 3 + 1]? = some (.int .i64 d.2.1) ∧ (rowM L)[j * 3 + 2]? = some (.bool d.2.2) := by
  induction L with
  | nil => intro j d h; simp at h
  | cons q L ih =>
    intro j d h
    rw [rowM_cons]
    cases j with
    | zero => simp at h; subst h; exact ⟨rfl, rfl, rfl⟩
    | succ j =>
      have h' : L[j]? = some d := by simpa using h
      rw [show (j + 1) * 3 = j * 3 + 1 + 1 + 1 from by omega, show j * 3 + 1 + 1 + 1 + 1 = j * 3 + 1 + 1 + 1 + 1 from rfl]
      obtain ⟨a, b, c⟩ := ih j d h'
      exact ⟨by simpa using a, by simpa using b, by simpa using c⟩
theorem rowM_put (L : List Dm) (p q : Dm) (M : List Dm) (j : Nat) (hj : L.length = j) :
    (((rowM (L ++ p :: M)).set (j * 3) (.int .i64 q.1)).set (j * 3 + 1) (.int .i64 q.2.1)).set (j * 3 + 2) (.bool q.2.2) = rowM (L ++ q :: M) := by
  have hl : (rowM L).length = j * 3 := by rw [rowM_length, hj]
  rw [rowM_app, rowM_app, List.set_append_right _ _ (by omega), List.set_append_right _ _ (by omega), List.set_append_right _ _ (by omega), hl, Nat.sub_self, show j * 3 + 1 - j * 3 = 1 from by omega, show j * 3 + 2 - j * 3 = 2 from by omega]
  rfl
/-- dominoes in a row below block B can be read. -/
def RowM (w : World) (B : Nat) (A : Option Addr) (L : List Dm) : Prop :=
  ∃ b off : Nat, (0 < L.length → A = some ⟨b, off, none⟩ ∧ b < B) ∧ ∀ j d, L[j]? = some d →
    w.cell? ⟨b, off + j * 3, none⟩ = some (.int .i64 d.1) ∧ w.cell? ⟨b, off + j * 3 + 1, none⟩ = some (.int .i64 d.2.1) ∧ w.cell? ⟨b, off + j * 3 + 2, none⟩ = some (.bool d.2.2)
theorem RowM.mono {w : World} {B B' : Nat} {A : Option Addr} {L : List Dm} (h : RowM w B A L) (hB : B ≤ B') : RowM w B' A L := by
  obtain ⟨b, off, h1, h2⟩ := h
  exact ⟨b, off, fun k => ⟨(h1 k).1, by have := (h1 k).2; omega⟩, h2⟩
theorem some_pos {α : Type} {L : List α} {j : Nat} {d : α} (h : L[j]? = some d) : 0 < L.length := by have := (List.getElem?_eq_some_iff.1 h).1; omega
theorem RowM.below {w w' : World} {B B' : Nat} {A : Option Addr} {L : List Dm} (h : RowM w B A L) (hb : Below B' w w') (hB : B ≤ B') : RowM w' B A L := by
  obtain ⟨b, off, h1, h2⟩ := h
  refine ⟨b, off, h1, fun j d hd => ?_⟩
  have hlt : b < B' := by have := (h1 (some_pos hd)).2; omega
  rw [hb.cell (p := ⟨b, off + j * 3, none⟩) hlt, hb.cell (p := ⟨b, off + j * 3 + 1, none⟩) hlt, hb.cell (p := ⟨b, off + j * 3 + 2, none⟩) hlt]
  exact h2 j d hd
theorem RowM.drew {w : World} {B : Nat} {A : Option Addr} {L : List Dm} (h : RowM w B A L) : RowM w.drew B A L := h
theorem rowM_own {w : World} {base e n cap : Nat} {A : Option Addr} {L : List Dm} (h : w.ownsRow base e 3 (.slice A n cap) n (rowM L)) : RowM w w.heap.size A L := by
  have hn : L.length = n := by have := h.1; rw [rowM_length] at this; omega
  by_cases h0 : L.length = 0
  · have : L = [] := List.eq_nil_of_length_eq_zero h0
    subst this
    exact ⟨0, 0, fun h => by simp at h, fun j u hu => by simp at hu⟩
  · obtain ⟨g, c, hv, _, hlt⟩ := h.form (by omega)
    injection hv with hA
    subst hA
    refine ⟨g, 0, fun _ => ⟨rfl, hlt⟩, fun j d hd => ?_⟩
    obtain ⟨h1, h2, h3⟩ := rowM_at L j d hd
    have c1 := h.cells (g := g) rfl _ _ h1
    have c2 := h.cells (g := g) rfl _ _ h2
    have c3 := h.cells (g := g) rfl _ _ h3
    rw [Base.add_plain] at c1 c2 c3
    simp only [Nat.zero_add]
    exact ⟨c1, c2, c3⟩
theorem RowM.at {w : World} {B : Nat} {A : Option Addr} {L : List Dm} (h : RowM w B A L) : ∃ b off : Nat, (0 < L.length → A = some ⟨b, off, none⟩ ∧ b < B) ∧ ∀ j, (hj : j < L.length) →
    w.cell? ⟨b, off + j * 3, none⟩ = some (.int .i64 L[j].1) ∧ w.cell? ⟨b, off + j * 3 + 1, none⟩ = some (.int .i64 L[j].2.1) ∧ w.cell? ⟨b, off + j * 3 + 2, none⟩ = some (.bool L[j].2.2) := by
  obtain ⟨b, off, h1, h2⟩ := h
  exact ⟨b, off, h1, fun j hj => h2 j _ (List.getElem?_eq_getElem hj)⟩
/-- every number fits the machine's int. -/
def Fits (L : List Dm) : Prop := ∀ d ∈ L, Sm d.1 ∧ Sm d.2.1

theorem add_none (b o j : Nat) : (⟨b, o, none⟩ : Addr).add j = ⟨b, o + j, none⟩ := by unfold Addr.add; split <;> simp_all
/-- a slice of dominoes that comes in. -/
theorem open_doms {H : Type} {enc : TypeId × Value → H} {P : Program} {W : World} {held : Bool} {r : Reach} {b0 : Nat} {t e : TypeId} {f0 f1 f2 : Field} {v : Value} {d : DataW H} {p : List MemPlace}
    (ht : P.underlying t = some (.slice e)) (he : P.underlying e = some (.struct #[f0, f1, f2])) (hone : oneCellFields P #[f0, f1, f2] = true) (hc : P.cellsOf e = 3)
    (k0 : P.underlying f0.type = some (.int .i64)) (k1 : P.underlying f1.type = some (.int .i64)) (k2 : P.underlying f2.type = some .bool)
    (hv : Value.okWide P W r b0 t v) (h : DataW.Trod enc P W 0 (fun _ => true) held t v d p) :
    ∃ (A : Option Addr) (n cap : Nat) (L : List Dm), v = .slice A n cap ∧ L.length = n ∧ (n : Int) ≤ 9223372036854775807 ∧ RowM W W.heap.size A L ∧ Fits L := by
  obtain ⟨a0, len0, cap0, rfl⟩ := okWide_slice ht hv
  obtain ⟨fuel, hf⟩ := h
  have hf' : DataW.trod enc P W 0 (fun _ => true) held fuel t [.slice a0 len0 cap0] = some (d, p) := by simpa [Value.cells] using hf
  rcases open_slice ht hf' with ⟨hcs, _⟩ | ⟨a, len, cap, m, n, D, Pl, hcs, _, hl, hm, hmm, _, hx⟩
  · simp only [List.cons.injEq, and_true, Value.slice.injEq] at hcs
    obtain ⟨rfl, rfl, rfl⟩ := hcs
    exact ⟨none, 0, 0, [], rfl, rfl, by omega, ⟨0, 0, fun h => by simp at h, fun j u hu => by simp at hu⟩, fun d hd => by simp at hd⟩
  · simp only [List.cons.injEq, and_true, Value.slice.injEq] at hcs
    obtain ⟨rfl, rfl, rfl⟩ := hcs
    simp only [if_true] at hmm
    subst hmm
    have each : ∀ i, i < len0 → ∃ q : Dm, (W.cell? (a.add (i * 3)) = some (.int .i64 q.1) ∧ W.cell? (a.add (i * 3 + 1)) = some (.int .i64 q.2.1) ∧ W.cell? (a.add (i * 3 + 2)) = some (.bool q.2.2)) ∧ Sm q.1 ∧ Sm q.2.1 := by
      intro i hi
      obtain ⟨cs', h1, h2⟩ := hx i (by omega)
      rw [hc] at h1
      obtain ⟨_, hlen, hcell⟩ := World.cells?_some h1
      obtain ⟨y0, y1, y2, n', _, _, g0, g1, g2⟩ := trod_struct3 he h2
      obtain ⟨o0, s0⟩ := hone_of hone 0 f0 rfl
      obtain ⟨o1, s1⟩ := hone_of hone 1 f1 rfl
      obtain ⟨o2, s2⟩ := hone_of hone 2 f2 rfl
      match cs', hlen with
      | [c0, c1, c2], _ =>
        rw [o0, s0] at g0
        rw [o1, s1] at g1
        rw [o2, s2] at g2
        obtain ⟨q0, e0, _, w0⟩ := DataW.trod_int k0 (by simpa using g0)
        obtain ⟨q1, e1, _, w1⟩ := DataW.trod_int k1 (by simpa using g1)
        obtain ⟨q2, e2, _⟩ := DataW.trod_bool k2 (by simpa using g2)
        simp only [List.cons.injEq, and_true] at e0 e1 e2
        subst e0 e1 e2
        have a0 := hcell 0 (by omega)
        have a1 := hcell 1 (by omega)
        have a2 := hcell 2 (by omega)
        rw [add_add] at a0 a1 a2
        exact ⟨(q0, q1, q2), ⟨a0, a1, a2⟩, bounds_i64 w0, bounds_i64 w1⟩
    obtain ⟨V, hV⟩ := choose_lt (α := Dm) each
    refine ⟨some a, len0, _, (List.range len0).map V, rfl, by simp, by unfold maxLen at hm; omega, ?_, ?_⟩
    · by_cases h00 : len0 = 0
      · subst h00
        exact ⟨0, 0, fun h => by simp at h, fun j u hu => by simp at hu⟩
      · obtain ⟨b, off, spot⟩ := a
        have hc0 := (hV 0 (by omega)).1.1
        have hsp : spot = none := by
          have h1 := World.cell?_spot hc0
          simpa [Addr.add] using h1
        subst hsp
        refine ⟨b, off, fun _ => ⟨rfl, ?_⟩, fun j d hd => ?_⟩
        · rw [add_none] at hc0
          exact World.block_lt_of_cell? W _ hc0
        · have hj : j < len0 := by
            have := (List.getElem?_eq_some_iff.1 hd).1
            simpa using this
          have hd' : V j = d := by simpa [List.getElem?_range hj] using hd
          obtain ⟨⟨c0, c1, c2⟩, _⟩ := hV j hj
          rw [add_none] at c0 c1 c2
          rw [hd'] at c0 c1 c2
          exact ⟨c0, c1, c2⟩
    · intro d hd
      obtain ⟨j, hj, rfl⟩ := List.mem_map.1 hd
      exact (hV j (List.mem_range.1 hj)).2
end Go.Proofs.Ytkjoonmnedofiaa.Dms
