/- DomL, DmM, Pure in one text. -/
import Derived.Test.YtieophdbhnpncaaMp02
import Derived.OwnWalk
import Derived.Laws.AppendOwn
import Derived.Deep.AppendLies
import Derived.Laws.OwnMore
import Derived.Deep.Slices
import Derived.Deep.Strs
import Derived.OpenShut
import Derived.WalkKit
import Derived.Laws.BytesArg
import Derived.Laws.BitsAllLaws

/- The laws' own copies and comparisons of dominoes; the laws of one domino: FnExactDominoOk and FnExactCellsUnder return true of every argument. -/
namespace Go.Proofs.Ytieophdbhnpncaa.Dom
set_option linter.unusedVariables false
set_option linter.unusedSimpArgs false
open Go.RowKit Go.Proofs.Ytieophdbhnpncaa.Base Go.Proofs.Ytieophdbhnpncaa.Cell Go.Proofs.Ytieophdbhnpncaa.CellF Go.Proofs.Ytieophdbhnpncaa.CellN Go.Joins

/-- the law says yes, and makes memory at most. -/
def Yes (w : World) (e : Ending) (w' : World) : Prop := e = .returned (.bool true) ∧ Below w.heap.size w w'

set_option maxHeartbeats 400000 in
theorem toDomino (x y : Int) (b : Bool) (w : World) :
    Calls Try.prog 38 #[.agg #[.int .i64 x, .int .i64 y, .bool b]] w (Do x y b w) := by
  go_enter Try.func38, Try.ntmps38
  go_wp2
  exact bodyPost_ret (v := .agg #[.int .i64 x, .int .i64 y, .bool b]) (by simp [results, Try.results38, go_sem]) rfl ⟨rfl, below_alloc3 _ _ _ _⟩

/-- two dominoes are the same, as a bool. -/
def eqD (x y : Int) (b : Bool) (u v : Int) (c : Bool) : Bool := decide (x = u ∧ y = v ∧ b = c)
theorem eqD_iff {x y : Int} {b : Bool} {u v : Int} {c : Bool} : eqD x y b u v c = true ↔ x = u ∧ y = v ∧ b = c := by unfold eqD; simp

set_option maxHeartbeats 400000 in
theorem eqDominoSame (x y : Int) (b : Bool) (w : World) :
    Calls Try.prog 45 #[.agg #[.int .i64 x, .int .i64 y, .bool b], .agg #[.int .i64 x, .int .i64 y, .bool b]] w (Bol true w) := by
  have e1 : (x != x) = false := by simp
  have e2 : (y != y) = false := by simp
  have e3 : (b != b) = false := by simp
  go_enter Try.func45, Try.ntmps45
  go_wp2
  go_ret
  exact mkBol rfl (below_alloc2 _ _ _)
end Go.Proofs.Ytieophdbhnpncaa.Dom

/- Slices of dominoes in memory: what lies there, a slice that comes in, two that are compared. -/
namespace Go.Proofs.Ytieophdbhnpncaa.Dms
set_option linter.unusedVariables false
set_option linter.unusedSimpArgs false
open Go.RowKit Go.Proofs.Ytieophdbhnpncaa.Base Go.Proofs.Ytieophdbhnpncaa.Cell Go.Proofs.Ytieophdbhnpncaa.Dom Go.Joins Go.ChangeShapes Go.WideShapes Go.Deep

/-- a domino, as numbers and a bool. -/
abbrev Dm := Int × Int × Bool
/-- the dominoes of a slice, as they lie in memory. -/
def rowM (L : List Dm) : List Value := L.flatMap fun d => [.int .i64 d.1, .int .i64 d.2.1, .bool d.2.2]
theorem rowM_cons (d : Dm) (L : List Dm) : rowM (d :: L) = .int .i64 d.1 :: .int .i64 d.2.1 :: .bool d.2.2 :: rowM L := rfl
theorem rowM_app (L M : List Dm) : rowM (L ++ M) = rowM L ++ rowM M := by unfold rowM; simp
theorem rowM_snoc (L : List Dm) (d : Dm) : rowM (L ++ [d]) = rowM L ++ [.int .i64 d.1, .int .i64 d.2.1, .bool d.2.2] := by rw [rowM_app]; rfl
theorem rowM_length (L : List Dm) : (rowM L).length = L.length * 3 := by
  induction L with
  | nil => rfl
  | cons d L ih => rw [rowM_cons]; simp only [List.length_cons, ih]; omega
theorem rowM_at (L : List Dm) : ∀ (j : Nat) (d : Dm), L[j]? = some d → (rowM L)[j * 3]? = some (.int .i64 d.1) ∧ (rowM L)[j * 3 + 1]? = some (.int .i64 d.2.1) ∧ (rowM L)[j * 3 + 2]? = some (.bool d.2.2) := by
  induction L with
  | nil => intro j d h; simp at h
  | cons q L ih =>
    intro j d h
    rw [rowM_cons]
    cases j with
    | zero => simp at h; subst h; exact ⟨rfl, rfl, rfl⟩
    | succ j =>
      have h' : L[j]? = some d := by simpa using h
      rw [show (j + 1) * 3 = j * 3 + 1 + 1 + 1 from by omega, show j * 3 + 1 + 1 + 1 + 1 = j * 3 + 1 + 1 + 1 + 1 from rfl]
      obtain ⟨a, b, c⟩ := ih j d h'
      exact ⟨by simpa using a, by simpa using b, by simpa using c⟩
theorem rowM_put (L : List Dm) (p q : Dm) (M : List Dm) (j : Nat) (hj : L.length = j) :
    (((rowM (L ++ p :: M)).set (j * 3) (.int .i64 q.1)).set (j * 3 + 1) (.int .i64 q.2.1)).set (j * 3 + 2) (.bool q.2.2) = rowM (L ++ q :: M) := by
  have hl : (rowM L).length = j * 3 := by rw [rowM_length, hj]
  rw [rowM_app, rowM_app, List.set_append_right _ _ (by omega), List.set_append_right _ _ (by omega), List.set_append_right _ _ (by omega), hl, Nat.sub_self, show j * 3 + 1 - j * 3 = 1 from by omega, show j * 3 + 2 - j * 3 = 2 from by omega]
  rfl
/-- dominoes in a row below block B can be read. -/
def RowM (w : World) (B : Nat) (A : Option Addr) (L : List Dm) : Prop :=
  ∃ b off : Nat, (0 < L.length → A = some ⟨b, off, none⟩ ∧ b < B) ∧ ∀ j d, L[j]? = some d →
    w.cell? ⟨b, off + j * 3, none⟩ = some (.int .i64 d.1) ∧ w.cell? ⟨b, off + j * 3 + 1, none⟩ = some (.int .i64 d.2.1) ∧ w.cell? ⟨b, off + j * 3 + 2, none⟩ = some (.bool d.2.2)
theorem RowM.mono {w : World} {B B' : Nat} {A : Option Addr} {L : List Dm} (h : RowM w B A L) (hB : B ≤ B') : RowM w B' A L := by
  obtain ⟨b, off, h1, h2⟩ := h
  exact ⟨b, off, fun k => ⟨(h1 k).1, by have := (h1 k).2; omega⟩, h2⟩
theorem some_pos {α : Type} {L : List α} {j : Nat} {d : α} (h : L[j]? = some d) : 0 < L.length := by have := (List.getElem?_eq_some_iff.1 h).1; omega
theorem RowM.below {w w' : World} {B B' : Nat} {A : Option Addr} {L : List Dm} (h : RowM w B A L) (hb : Below B' w w') (hB : B ≤ B') : RowM w' B A L := by
  obtain ⟨b, off, h1, h2⟩ := h
  refine ⟨b, off, h1, fun j d hd => ?_⟩
  have hlt : b < B' := by have := (h1 (some_pos hd)).2; omega
  rw [hb.cell (p := ⟨b, off + j * 3, none⟩) hlt, hb.cell (p := ⟨b, off + j * 3 + 1, none⟩) hlt, hb.cell (p := ⟨b, off + j * 3 + 2, none⟩) hlt]
  exact h2 j d hd
theorem RowM.drew {w : World} {B : Nat} {A : Option Addr} {L : List Dm} (h : RowM w B A L) : RowM w.drew B A L := h
theorem rowM_own {w : World} {base e n cap : Nat} {A : Option Addr} {L : List Dm} (h : w.ownsRow base e 3 (.slice A n cap) n (rowM L)) : RowM w w.heap.size A L := by
  have hn : L.length = n := by have := h.1; rw [rowM_length] at this; omega
  by_cases h0 : L.length = 0
  · have : L = [] := List.eq_nil_of_length_eq_zero h0
    subst this
    exact ⟨0, 0, fun h => by simp at h, fun j u hu => by simp at hu⟩
  · obtain ⟨g, c, hv, _, hlt⟩ := h.form (by omega)
    injection hv with hA
    subst hA
    refine ⟨g, 0, fun _ => ⟨rfl, hlt⟩, fun j d hd => ?_⟩
    obtain ⟨h1, h2, h3⟩ := rowM_at L j d hd
    have c1 := h.cells (g := g) rfl _ _ h1
    have c2 := h.cells (g := g) rfl _ _ h2
    have c3 := h.cells (g := g) rfl _ _ h3
    rw [Base.add_plain] at c1 c2 c3
    simp only [Nat.zero_add]
    exact ⟨c1, c2, c3⟩
theorem RowM.at {w : World} {B : Nat} {A : Option Addr} {L : List Dm} (h : RowM w B A L) : ∃ b off : Nat, (0 < L.length → A = some ⟨b, off, none⟩ ∧ b < B) ∧ ∀ j, (hj : j < L.length) →
    w.cell? ⟨b, off + j * 3, none⟩ = some (.int .i64 L[j].1) ∧ w.cell? ⟨b, off + j * 3 + 1, none⟩ = some (.int .i64 L[j].2.1) ∧ w.cell? ⟨b, off + j * 3 + 2, none⟩ = some (.bool L[j].2.2) := by
  obtain ⟨b, off, h1, h2⟩ := h
  exact ⟨b, off, h1, fun j hj => h2 j _ (List.getElem?_eq_getElem hj)⟩
/-- every number fits the machine's int. -/
def Fits (L : List Dm) : Prop := ∀ d ∈ L, Sm d.1 ∧ Sm d.2.1

theorem add_none (b o j : Nat) : (⟨b, o, none⟩ : Addr).add j = ⟨b, o + j, none⟩ := by unfold Addr.add; split <;> simp_all
/-- a slice of dominoes that comes in. -/
theorem open_doms {H : Type} {enc : TypeId × Value → H} {P : Program} {W : World} {held : Bool} {r : Reach} {b0 : Nat} {t e : TypeId} {f0 f1 f2 : Field} {v : Value} {d : DataW H} {p : List MemPlace}
    (ht : P.underlying t = some (.slice e)) (he : P.underlying e = some (.struct #[f0, f1, f2])) (hone : oneCellFields P #[f0, f1, f2] = true) (hc : P.cellsOf e = 3)
    (k0 : P.underlying f0.type = some (.int .i64)) (k1 : P.underlying f1.type = some (.int .i64)) (k2 : P.underlying f2.type = some .bool)
    (hv : Value.okWide P W r b0 t v) (h : DataW.Trod enc P W 0 (fun _ => true) held t v d p) :
    ∃ (A : Option Addr) (n cap : Nat) (L : List Dm), v = .slice A n cap ∧ L.length = n ∧ (n : Int) ≤ 9223372036854775807 ∧ RowM W W.heap.size A L ∧ Fits L := by
  obtain ⟨a0, len0, cap0, rfl⟩ := okWide_slice ht hv
  obtain ⟨fuel, hf⟩ := h
  have hf' : DataW.trod enc P W 0 (fun _ => true) held fuel t [.slice a0 len0 cap0] = some (d, p) := by simpa [Value.cells] using hf
  rcases open_slice ht hf' with ⟨hcs, _⟩ | ⟨a, len, cap, m, n, D, Pl, hcs, _, hl, hm, hmm, _, hx⟩
  · simp only [List.cons.injEq, and_true, Value.slice.injEq] at hcs
    obtain ⟨rfl, rfl, rfl⟩ := hcs
    exact ⟨none, 0, 0, [], rfl, rfl, by omega, ⟨0, 0, fun h => by simp at h, fun j u hu => by simp at hu⟩, fun d hd => by simp at hd⟩
  · simp only [List.cons.injEq, and_true, Value.slice.injEq] at hcs
    obtain ⟨rfl, rfl, rfl⟩ := hcs
    simp only [if_true] at hmm
    subst hmm
    have each : ∀ i, i < len0 → ∃ q : Dm, (W.cell? (a.add (i * 3)) = some (.int .i64 q.1) ∧ W.cell? (a.add (i * 3 + 1)) = some (.int .i64 q.2.1) ∧ W.cell? (a.add (i * 3 + 2)) = some (.bool q.2.2)) ∧ Sm q.1 ∧ Sm q.2.1 := by
      intro i hi
      obtain ⟨cs', h1, h2⟩ := hx i (by omega)
      rw [hc] at h1
      obtain ⟨_, hlen, hcell⟩ := World.cells?_some h1
      obtain ⟨y0, y1, y2, n', _, _, g0, g1, g2⟩ := trod_struct3 he h2
      obtain ⟨o0, s0⟩ := hone_of hone 0 f0 rfl
      obtain ⟨o1, s1⟩ := hone_of hone 1 f1 rfl
      obtain ⟨o2, s2⟩ := hone_of hone 2 f2 rfl
      match cs', hlen with
      | [c0, c1, c2], _ =>
        rw [o0, s0] at g0
        rw [o1, s1] at g1
        rw [o2, s2] at g2
        obtain ⟨q0, e0, _, w0⟩ := DataW.trod_int k0 (by simpa using g0)
        obtain ⟨q1, e1, _, w1⟩ := DataW.trod_int k1 (by simpa using g1)
        obtain ⟨q2, e2, _⟩ := DataW.trod_bool k2 (by simpa using g2)
        simp only [List.cons.injEq, and_true] at e0 e1 e2
        subst e0 e1 e2
        have a0 := hcell 0 (by omega)
        have a1 := hcell 1 (by omega)
        have a2 := hcell 2 (by omega)
        rw [add_add] at a0 a1 a2
        exact ⟨(q0, q1, q2), ⟨a0, a1, a2⟩, bounds_i64 w0, bounds_i64 w1⟩
    obtain ⟨V, hV⟩ := choose_lt (α := Dm) each
    refine ⟨some a, len0, _, (List.range len0).map V, rfl, by simp, by unfold maxLen at hm; omega, ?_, ?_⟩
    · by_cases h00 : len0 = 0
      · subst h00
        exact ⟨0, 0, fun h => by simp at h, fun j u hu => by simp at hu⟩
      · obtain ⟨b, off, spot⟩ := a
        have hc0 := (hV 0 (by omega)).1.1
        have hsp : spot = none := by
          have h1 := World.cell?_spot hc0
          simpa [Addr.add] using h1
        subst hsp
        refine ⟨b, off, fun _ => ⟨rfl, ?_⟩, fun j d hd => ?_⟩
        · rw [add_none] at hc0
          exact World.block_lt_of_cell? W _ hc0
        · have hj : j < len0 := by
            have := (List.getElem?_eq_some_iff.1 hd).1
            simpa using this
          have hd' : V j = d := by simpa [List.getElem?_range hj] using hd
          obtain ⟨⟨c0, c1, c2⟩, _⟩ := hV j hj
          rw [add_none] at c0 c1 c2
          rw [hd'] at c0 c1 c2
          exact ⟨c0, c1, c2⟩
    · intro d hd
      obtain ⟨j, hj, rfl⟩ := List.mem_map.1 hd
      exact (hV j (List.mem_range.1 hj)).2
end Go.Proofs.Ytieophdbhnpncaa.Dms

/- Regions as lists of numbers: which are valid, which cells they have, a cell that is put in or taken out, their texts: no program here. -/
namespace Go.Proofs.Ytieophdbhnpncaa.Pure
open Go.RowKit

/-- a valid region. -/
def okR (xs : List Int) : Prop := xs.length ≤ 8 ∧ ∀ x ∈ xs, 0 ≤ x ∧ x ≤ 255
instance (xs : List Int) : Decidable (okR xs) := inferInstanceAs (Decidable (_ ∧ _))
def okRB (xs : List Int) : Bool := decide (okR xs)
theorem okRB_iff {xs : List Int} : okRB xs = true ↔ okR xs := by unfold okRB; simp
theorem okRB_of {xs : List Int} (h : okR xs) : okRB xs = true := decide_eq_true h
theorem okRB_not {xs : List Int} (h : ¬ okR xs) : okRB xs = false := decide_eq_false h
/-- the bit of a row. -/
def bitB (r : Int) (k : Nat) : Bool := decide (r / 2 ^ k % 2 = 1)
theorem bitB_zero (k : Nat) : bitB 0 k = false := by unfold bitB; simp
theorem bitB_iff {r : Int} {k : Nat} : bitB r k = true ↔ r / 2 ^ k % 2 = 1 := by unfold bitB; simp
/-- a row, which is 0 if it is missing. -/
def rowD (xs : List Int) (y : Nat) : Int := xs.getD y 0
theorem rowD_at {xs : List Int} {y : Nat} {r : Int} (h : xs[y]? = some r) : rowD xs y = r := by unfold rowD; simp [List.getD, h]
theorem rowD_out {xs : List Int} {y : Nat} (h : xs.length ≤ y) : rowD xs y = 0 := by unfold rowD; simp [List.getD, List.getElem?_eq_none h]
theorem rowD_ok {xs : List Int} (h : okR xs) (y : Nat) : 0 ≤ rowD xs y ∧ rowD xs y ≤ 255 := by
  by_cases hy : y < xs.length
  · have e : rowD xs y = xs[y] := rowD_at (List.getElem?_eq_getElem hy)
    rw [e]; exact h.2 _ (List.getElem_mem hy)
  · rw [rowD_out (by omega)]; omega
/-- the cells among the first k indexes. -/
def cellsTo (xs : List Int) (k : Nat) : List (Int × Int) := ((List.range k).filter fun j => bitB (rowD xs (j / 8)) (j % 8)).map fun j => (((j % 8 : Nat) : Int), ((j / 8 : Nat) : Int))
theorem cellsTo_yes {xs : List Int} {k : Nat} (h : bitB (rowD xs (k / 8)) (k % 8) = true) : cellsTo xs (k + 1) = cellsTo xs k ++ [(((k % 8 : Nat) : Int), ((k / 8 : Nat) : Int))] := by
  unfold cellsTo; rw [List.range_succ, List.filter_append, List.map_append]; simp [h]
theorem cellsTo_no {xs : List Int} {k : Nat} (h : bitB (rowD xs (k / 8)) (k % 8) = false) : cellsTo xs (k + 1) = cellsTo xs k := by
  unfold cellsTo; rw [List.range_succ, List.filter_append, List.map_append]; simp [h]
theorem cellsTo_length (xs : List Int) (k : Nat) : (cellsTo xs k).length ≤ k := by
  unfold cellsTo; rw [List.length_map]; exact Nat.le_trans (List.length_filter_le _ _) (by simp)
theorem cellsTo_out {xs : List Int} {k : Nat} (h : xs.length * 8 ≤ k) (m : Nat) : cellsTo xs (k + m) = cellsTo xs k := by
  induction m with
  | zero => rfl
  | succ m ih =>
    rw [← Nat.add_assoc, cellsTo_no, ih]
    rw [rowD_out (by omega)]; exact bitB_zero _
/-- all cells. -/
def cellsR (xs : List Int) : List (Int × Int) := if okR xs then cellsTo xs 64 else []
theorem cellsR_ok {xs : List Int} (h : okR xs) : cellsR xs = cellsTo xs 64 := by unfold cellsR; simp [h]
theorem cellsR_ok' {xs : List Int} (h : okR xs) : cellsR xs = cellsTo xs (xs.length * 8) := by
  rw [cellsR_ok h]
  have := h.1
  have e := cellsTo_out (xs := xs) (k := xs.length * 8) (Nat.le_refl _) (64 - xs.length * 8)
  rw [show xs.length * 8 + (64 - xs.length * 8) = 64 by omega] at e
  exact e
theorem cellsR_not {xs : List Int} (h : ¬ okR xs) : cellsR xs = [] := by unfold cellsR; simp [h]
theorem cellsR_length (xs : List Int) : (cellsR xs).length ≤ 64 := by
  unfold cellsR; split
  · exact cellsTo_length _ _
  · simp
/-- does the region have the cell x, y? (x, y from 0 to 7.) -/
def hasB (xs : List Int) (x y : Int) : Bool := decide (okR xs ∧ 0 ≤ x ∧ x ≤ 7 ∧ 0 ≤ y ∧ y ≤ 7 ∧ bitB (rowD xs y.toNat) x.toNat = true)
theorem hasB_iff {xs : List Int} {x y : Int} : hasB xs x y = true ↔ okR xs ∧ 0 ≤ x ∧ x ≤ 7 ∧ 0 ≤ y ∧ y ≤ 7 ∧ bitB (rowD xs y.toNat) x.toNat = true := by unfold hasB; simp
/-- a rectangle. -/
def rectR (w h : Int) : List Int := if 1 ≤ w ∧ w ≤ 8 ∧ 1 ≤ h ∧ h ≤ 8 then List.replicate h.toNat (2 ^ w.toNat - 1) else []
theorem rectR_in {w h : Int} (k : 1 ≤ w ∧ w ≤ 8 ∧ 1 ≤ h ∧ h ≤ 8) : rectR w h = List.replicate h.toNat (2 ^ w.toNat - 1) := by unfold rectR; simp [k]
theorem rectR_out {w h : Int} (k : ¬ (1 ≤ w ∧ w ≤ 8 ∧ 1 ≤ h ∧ h ≤ 8)) : rectR w h = [] := by unfold rectR; rw [if_neg k]
theorem rectR_length (w h : Int) : (rectR w h).length ≤ 8 := by
  unfold rectR; split
  · rw [List.length_replicate]; omega
  · simp
/-- a row with a bit put in or taken out. -/
def putB (r : Int) (k : Nat) (on : Bool) : Int := if bitB r k = on then r else if on then r + 2 ^ k else r - 2 ^ k
/-- eight rows. -/
def pad8 (xs : List Int) : List Int := xs ++ List.replicate (8 - xs.length) 0
theorem pad8_length {xs : List Int} (h : xs.length ≤ 8) : (pad8 xs).length = 8 := by unfold pad8; simp; omega
theorem rowD_pad8 (xs : List Int) (y : Nat) : rowD (pad8 xs) y = rowD xs y := by
  unfold rowD pad8
  simp only [List.getD]
  by_cases h : y < xs.length
  · rw [List.getElem?_append_left h]
  · rw [List.getElem?_append_right (by omega), List.getElem?_eq_none (l := xs) (by omega)]
    by_cases h2 : y - xs.length < 8 - xs.length
    · rw [List.getElem?_replicate]; simp [h2]
    · rw [List.getElem?_eq_none (by simp; omega)]
/-- with the cell x, y or without it. -/
def withR (xs : List Int) (x y : Nat) (on : Bool) : List Int := (pad8 xs).set y (putB (rowD xs y) x on)
theorem withR_length {xs : List Int} (h : xs.length ≤ 8) (x y : Nat) (on : Bool) : (withR xs x y on).length = 8 := by unfold withR; rw [List.length_set, pad8_length h]
theorem rowD_with {xs : List Int} (h : xs.length ≤ 8) (x : Nat) {y : Nat} (hy : y < 8) (on : Bool) (z : Nat) : rowD (withR xs x y on) z = if z = y then putB (rowD xs y) x on else rowD xs z := by
  have hl := pad8_length h
  by_cases e : z = y
  · subst e
    rw [if_pos rfl]
    unfold withR
    refine rowD_at ?_
    rw [List.getElem?_set_self (by omega)]
  · rw [if_neg e, ← rowD_pad8 xs z]
    unfold withR rowD
    simp only [List.getD]
    rw [List.getElem?_set_ne (by omega)]
/-- the same cells. -/
def sameR (a b : List Int) : Bool := okRB a && (okRB b && (List.range 8).all fun y => rowD a y == rowD b y)
theorem sameR_iff {a b : List Int} : sameR a b = true ↔ okR a ∧ okR b ∧ ∀ y, y < 8 → rowD a y = rowD b y := by unfold sameR; simp [okRB_iff]
/-- the bytes of a row's text. -/
def charsTo (r : Int) (k : Nat) : List Int := (List.range k).map fun j => if bitB r j then 35 else 46
def rowS (r : Int) : ByteArray := strOfNums (charsTo r 8)
def textR (xs : List Int) : List ByteArray := if okR xs then xs.map rowS else []
theorem textR_ok {xs : List Int} (h : okR xs) : textR xs = xs.map rowS := by unfold textR; simp [h]
theorem textR_not {xs : List Int} (h : ¬ okR xs) : textR xs = [] := by unfold textR; simp [h]
theorem charsTo_length (r : Int) (k : Nat) : (charsTo r k).length = k := by unfold charsTo; simp
theorem charsTo_yes {r : Int} {k : Nat} (h : bitB r k = true) : charsTo r (k + 1) = charsTo r k ++ [35] := by unfold charsTo; rw [List.range_succ, List.map_append]; simp [h]
theorem charsTo_no {r : Int} {k : Nat} (h : bitB r k = false) : charsTo r (k + 1) = charsTo r k ++ [46] := by unfold charsTo; rw [List.range_succ, List.map_append]; simp [h]
theorem strOfNums_app (a b : List Int) : strOfNums (a ++ b) = strOfNums a ++ strOfNums b := by
  apply ByteArray.ext
  rw [ByteArray.data_append]
  unfold strOfNums
  simp

/-! Numbers from 0 to 255, by looking at all of them. -/
theorem and_table : ∀ r : Fin 256, ∀ k : Fin 8, (bits .and .i64 ((r.val : Nat) : Int) ((2 ^ k.val : Nat) : Int) = if bitB ((r.val : Nat) : Int) k.val then ((2 ^ k.val : Nat) : Int) else 0) ∧
    (bits .and .i64 (((r.val : Nat) : Int) / 2 ^ k.val) 1 = if bitB ((r.val : Nat) : Int) k.val then 1 else 0) ∧ (bits .or .i64 ((r.val : Nat) : Int) ((2 ^ k.val : Nat) : Int) = putB ((r.val : Nat) : Int) k.val true) ∧
    (bits .andNot .i64 ((r.val : Nat) : Int) ((2 ^ k.val : Nat) : Int) = putB ((r.val : Nat) : Int) k.val false) ∧ (putB ((r.val : Nat) : Int) k.val true - 2 ^ k.val = putB ((r.val : Nat) : Int) k.val false) ∧
    0 ≤ putB ((r.val : Nat) : Int) k.val true ∧ putB ((r.val : Nat) : Int) k.val true ≤ 255 ∧ 0 ≤ putB ((r.val : Nat) : Int) k.val false ∧ putB ((r.val : Nat) : Int) k.val false ≤ 255 ∧
    (putB (putB ((r.val : Nat) : Int) k.val true) k.val false = ((r.val : Nat) : Int) ↔ bitB ((r.val : Nat) : Int) k.val = false) := by decide +kernel
theorem table {r : Int} (h0 : 0 ≤ r) (h1 : r ≤ 255) {k : Nat} (hk : k < 8) : (bits .and .i64 r (2 ^ k) = if bitB r k then (2 : Int) ^ k else 0) ∧
    (bits .and .i64 (r / 2 ^ k) 1 = if bitB r k then 1 else 0) ∧ (bits .or .i64 r (2 ^ k) = putB r k true) ∧
    (bits .andNot .i64 r (2 ^ k) = putB r k false) ∧ (putB r k true - 2 ^ k = putB r k false) ∧
    0 ≤ putB r k true ∧ putB r k true ≤ 255 ∧ 0 ≤ putB r k false ∧ putB r k false ≤ 255 ∧ (putB (putB r k true) k false = r ↔ bitB r k = false) := by
  have h := and_table ⟨r.toNat, by omega⟩ ⟨k, hk⟩
  have e : ((r.toNat : Nat) : Int) = r := Int.toNat_of_nonneg h0
  have e2 : ((2 ^ k : Nat) : Int) = 2 ^ k := by simp
  simp only [e, e2] at h
  exact h
theorem and_no {r : Int} (h0 : 0 ≤ r) (h1 : r ≤ 255) {k : Nat} (hk : k < 8) (hb : bitB r k = false) : bits .and .i64 r (2 ^ k) = 0 := by rw [(table h0 h1 hk).1, hb]; rfl
theorem and_yes {r : Int} (h0 : 0 ≤ r) (h1 : r ≤ 255) {k : Nat} (hk : k < 8) (hb : bitB r k = true) : bits .and .i64 r (2 ^ k) = 2 ^ k := by rw [(table h0 h1 hk).1, hb]; rfl
theorem shr_no {r : Int} (h0 : 0 ≤ r) (h1 : r ≤ 255) {k : Nat} (hk : k < 8) (hb : bitB r k = false) : bits .and .i64 (r / 2 ^ k) 1 = 0 := by rw [(table h0 h1 hk).2.1, hb]; rfl
theorem shr_yes {r : Int} (h0 : 0 ≤ r) (h1 : r ≤ 255) {k : Nat} (hk : k < 8) (hb : bitB r k = true) : bits .and .i64 (r / 2 ^ k) 1 = 1 := by rw [(table h0 h1 hk).2.1, hb]; rfl
end Go.Proofs.Ytieophdbhnpncaa.Pure
