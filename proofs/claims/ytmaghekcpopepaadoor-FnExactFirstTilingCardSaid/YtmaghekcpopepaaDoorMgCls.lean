/- RegOk, RegHas, CelM, RegCl, RegCel in one text. -/
import Derived.Test.YtmaghekcpopepaaDoorMgReg
import Derived.Deep.RegionHeld3
import Derived.OwnWalk
import Derived.Laws.AppendOwn
import Derived.Deep.AppendLies
import Derived.Laws.OwnMore
import Derived.Deep.DeepAppendRoom

/- Which regions are valid: the program's function and the model's. -/
namespace Go.Proofs.YtmaghekcpopepaaDoor.Reg
set_option linter.unusedVariables false
open Go.RowKit Go.Proofs.YtmaghekcpopepaaDoor.Base Go.Proofs.YtmaghekcpopepaaDoor.Pure Go.Proofs.YtmaghekcpopepaaDoor.Cell Go.Joins

/-- the numbers up to k are in their range. -/
def InTo (xs : List Int) (k : Nat) : Prop := ∀ x ∈ xs.take k, 0 ≤ x ∧ x ≤ 255
theorem InTo.zero (xs : List Int) : InTo xs 0 := fun x hx => by simp at hx
theorem InTo.next {xs : List Int} {k : Nat} (h : InTo xs k) (hk : k < xs.length) (h0 : 0 ≤ xs[k]) (h1 : xs[k] ≤ 255) : InTo xs (k + 1) := by
  intro x hx
  rw [List.take_succ_eq_append_getElem hk, List.mem_append, List.mem_singleton] at hx
  rcases hx with hx | rfl
  · exact h x hx
  · exact ⟨h0, h1⟩
theorem InTo.all {xs : List Int} {k : Nat} (h : InTo xs k) (hk : k = xs.length) : ∀ x ∈ xs, 0 ≤ x ∧ x ≤ 255 := by
  subst hk
  unfold InTo at h
  rwa [List.take_length] at h
theorem not_ok_at {xs : List Int} {k : Nat} (hk : k < xs.length) (h : ¬ (0 ≤ xs[k] ∧ xs[k] ≤ 255)) : okRB xs = false := okRB_not fun ho => h (ho.2 _ (List.getElem_mem hk))
/-- a parameter's box, behind what came since. -/
theorem boxR {T : TypeId} (v : Value) (w w1 : World) (h : Below (w.heap.size + 1) (w.alloc (.cells #[v] T)) w1) : w1.cell? ⟨w.heap.size, 0, none⟩ = some v := by
  rw [h.cell (by show w.heap.size < _; omega)]
  exact (cell_of_row _ _ 0 _ _ _ (heap_alloc_new w _)).trans rfl

set_option maxRecDepth 100000 in
set_option maxHeartbeats 1000000 in
theorem iRegionOk (w : World) (A : Option Addr) (n cap B : Nat) (xs : List Int) (hx : xs.length = n) (hn : (n : Int) ≤ 9223372036854775807) (h : RowB w B A xs) (hB : B ≤ w.heap.size) :
    Calls Tryd.prog 34 #[.agg #[.slice A n cap]] w (Bol (okRB xs) w) := by
  obtain ⟨b, off, hA, hc⟩ := h
  have HA := Lib.hid hA
  have HC := Lib.hid hc
  have HX := Lib.hid hx
  clear hA hc hx
  have HBw := Lib.hid (fun (o : Obj) => below_alloc1 w o)
  go_enter Tryd.func34, Tryd.ntmps34
  by_cases h8 : (n : Int) ≤ 8
  · go_wp2_with fail
    go_loop [12] (fun i => ∃ k : Nat, k ≤ n ∧ i = .int .i64 k ∧ Hid (InTo xs k)) (fun i => n - (intOf i).toNat)
    case atStart => exact ⟨0, Nat.zero_le _, rfl, Lib.hid (InTo.zero xs)⟩
    case round =>
      obtain ⟨k, hk, rfl, HI⟩ := hrel
      by_cases hlt : k < n
      · have hkx : k < xs.length := by have := HX.out; omega
        obtain ⟨rfl, hbw⟩ := HA.out (by omega)
        have hc1 : (w.alloc (.cells #[.slice (some ⟨b, off, none⟩) n cap] 26)).cell? ⟨b, off + k, none⟩ = some (.int .i64 xs[k]) :=
          ((HBw.out _).cell (p := ⟨b, off + k, none⟩) (by show b < _; omega)).trans (HC.out k xs[k] (List.getElem?_eq_getElem hkx))
        have HNx := Lib.hid (fun h0 h1 => HI.out.next hkx h0 h1)
        have HNo := Lib.hid (fun h => not_ok_at hkx h)
        generalize xs[k] = x at hc1 HNx HNo
        by_cases h0 : 0 ≤ x
        · by_cases h1 : x ≤ 255
          · go_wp2
            go_round
            case rel => exact ⟨k + 1, by omega, by go_num, Lib.hid (HNx.out h0 h1)⟩
            case measure => (simp [intOf] <;> omega)
          · have HR := Lib.hid (HNo.out (fun h => h1 h.2))
            go_wp2
            go_ret
            exact mkBol (by rw [HR.out]) (HBw.out _)
        · have HR := Lib.hid (HNo.out (fun h => h0 h.1))
          go_wp2
          go_ret
          exact mkBol (by rw [HR.out]) (HBw.out _)
      · obtain rfl : k = n := by omega
        have HR := Lib.hid (show okRB xs = true from okRB_of ⟨by have := HX.out; omega, HI.out.all (by rw [HX.out])⟩)
        go_wp2
        go_ret
        exact mkBol (by rw [HR.out]) (HBw.out _)
  · have HR := Lib.hid (show okRB xs = false from okRB_not fun ho => by have := ho.1; have := HX.out; omega)
    go_wp2
    go_ret
    exact mkBol (by rw [HR.out]) (HBw.out _)

set_option maxRecDepth 100000 in
set_option maxHeartbeats 1000000 in
theorem sRegionOk (w : World) (A : Option Addr) (n cap B : Nat) (xs : List Int) (hx : xs.length = n) (hn : (n : Int) ≤ 9223372036854775807) (h : RowB w B A xs) (hB : B ≤ w.heap.size) :
    Calls Tryd.prog 70 #[.agg #[.slice A n cap]] w (Bol (okRB xs) w) := by
  obtain ⟨b, off, hA, hc⟩ := h
  have HA := Lib.hid hA
  have HC := Lib.hid hc
  have HX := Lib.hid hx
  clear hA hc hx
  have HBw := Lib.hid (fun (o : Obj) => below_alloc1 w o)
  go_enter Tryd.func70, Tryd.ntmps70
  go_wp2_with fail
  go_loop [3] (fun i => ∃ k : Nat, k ≤ n ∧ i = .int .i64 k ∧ Hid (InTo xs k)) (fun i => n - (intOf i).toNat)
  case atStart => exact ⟨0, Nat.zero_le _, rfl, Lib.hid (InTo.zero xs)⟩
  case round =>
    obtain ⟨k, hk, rfl, HI⟩ := hrel
    by_cases hlt : k < n
    · have hkx : k < xs.length := by have := HX.out; omega
      obtain ⟨rfl, hbw⟩ := HA.out (by omega)
      have hc1 : (w.alloc (.cells #[.slice (some ⟨b, off, none⟩) n cap] 26)).cell? ⟨b, off + k, none⟩ = some (.int .i64 xs[k]) :=
        ((HBw.out _).cell (p := ⟨b, off + k, none⟩) (by show b < _; omega)).trans (HC.out k xs[k] (List.getElem?_eq_getElem hkx))
      have HNx := Lib.hid (fun h0 h1 => HI.out.next hkx h0 h1)
      have HNo := Lib.hid (fun h => not_ok_at hkx h)
      generalize xs[k] = x at hc1 HNx HNo
      go_wp2_with fail
      refine (l01In x 0 255 _).mono ?_
      rintro e w1 ⟨rfl, rfl⟩
      by_cases h0 : 0 ≤ x ∧ x ≤ 255
      · rw [inB_of h0]
        go_wp2
        go_round
        case rel => exact ⟨k + 1, by omega, by go_num, Lib.hid (HNx.out h0.1 h0.2)⟩
        case measure => (simp [intOf] <;> omega)
      · rw [inB_not h0]
        have HR := Lib.hid (HNo.out h0)
        go_wp2
        go_ret
        exact mkBol (by rw [HR.out]) (HBw.out _)
    · obtain rfl : k = n := by omega
      by_cases h8 : (k : Int) ≤ 8
      · have HR := Lib.hid (show okRB xs = true from okRB_of ⟨by have := HX.out; omega, HI.out.all (by rw [HX.out])⟩)
        go_wp2
        go_ret
        exact mkBol (by rw [HR.out]) (HBw.out _)
      · have HR := Lib.hid (show okRB xs = false from okRB_not fun ho => by have := ho.1; have := HX.out; omega)
        go_wp2
        go_ret
        exact mkBol (by rw [HR.out]) (HBw.out _)
end Go.Proofs.YtmaghekcpopepaaDoor.Reg

/- Does a region have a cell: the program's functions and the model's. -/
namespace Go.Proofs.YtmaghekcpopepaaDoor.Reg
set_option linter.unusedVariables false
open Go.RowKit Go.Proofs.YtmaghekcpopepaaDoor.Base Go.Proofs.YtmaghekcpopepaaDoor.Pure Go.Proofs.YtmaghekcpopepaaDoor.Cell Go.Joins

/-- the kind of a cell of a row. -/
def kindN (r : Int) (k : Nat) : Int := if bitB r k then 1 else 0
theorem kindN_no {r : Int} {k : Nat} (h : bitB r k = false) : kindN r k = 0 := by unfold kindN; rw [h]; rfl
theorem kindN_yes {r : Int} {k : Nat} (h : bitB r k = true) : kindN r k = 1 := by unfold kindN; rw [h]; rfl

set_option maxHeartbeats 1000000 in
theorem iKindAt (r : Int) (k : Nat) (h0 : 0 ≤ r) (h1 : r ≤ 255) (hk : k < 8) (w : World) :
    Calls Tryd.prog 85 #[.int .i64 r, .int .i64 (k : Int)] w fun e w' => e = .returned (.int .i64 (kindN r k)) ∧ w' = w := by
  cases hb : bitB r k with
  | false =>
    have hz := and_no h0 h1 hk hb
    have HK := Lib.hid (kindN_no hb)
    clear hb h0 h1
    have hcs : k = 0 ∨ k = 1 ∨ k = 2 ∨ k = 3 ∨ k = 4 ∨ k = 5 ∨ k = 6 ∨ k = 7 := by omega
    clear hk
    rcases hcs with rfl | rfl | rfl | rfl | rfl | rfl | rfl | rfl
    all_goals
      simp only [Int.reducePow] at hz
      go_enter Tryd.func85, Tryd.ntmps85
      go_wp2
      go_ret
      exact ⟨by rw [HK.out]; rfl, rfl⟩
  | true =>
    have hz := and_yes h0 h1 hk hb
    have HK := Lib.hid (kindN_yes hb)
    clear hb h0 h1
    have hcs : k = 0 ∨ k = 1 ∨ k = 2 ∨ k = 3 ∨ k = 4 ∨ k = 5 ∨ k = 6 ∨ k = 7 := by omega
    clear hk
    rcases hcs with rfl | rfl | rfl | rfl | rfl | rfl | rfl | rfl
    all_goals
      simp only [Int.reducePow] at hz
      go_enter Tryd.func85, Tryd.ntmps85
      go_wp2
      go_ret
      exact ⟨by rw [HK.out]; rfl, rfl⟩

set_option maxRecDepth 100000 in
set_option maxHeartbeats 1000000 in
theorem iRowAt (w : World) (A : Option Addr) (n cap B : Nat) (xs : List Int) (hx : xs.length = n) (hn : (n : Int) ≤ 9223372036854775807) (h : RowB w B A xs) (hB : B ≤ w.heap.size) (y : Nat) :
    Calls Tryd.prog 91 #[.agg #[.slice A n cap], .int .i64 (y : Int)] w (Num (rowD xs y) w) := by
  obtain ⟨b, off, hA, hc⟩ := h
  have HBw := Lib.hid (fun (o : Obj) => below_alloc1 w o)
  by_cases hlt : y < n
  · have hkx : y < xs.length := by omega
    obtain ⟨rfl, hbw⟩ := hA (by omega)
    have hc1 : (w.alloc (.cells #[.slice (some ⟨b, off, none⟩) n cap] 26)).cell? ⟨b, off + y, none⟩ = some (.int .i64 xs[y]) :=
      ((HBw.out _).cell (p := ⟨b, off + y, none⟩) (by show b < _; omega)).trans (hc y xs[y] (List.getElem?_eq_getElem hkx))
    have HR := Lib.hid (rowD_at (List.getElem?_eq_getElem hkx))
    generalize xs[y] = r at hc1 HR
    clear hA hc hx hkx
    go_enter Tryd.func91, Tryd.ntmps91
    go_wp2
    go_ret
    exact mkNum (by rw [HR.out]) (HBw.out _)
  · have HR := Lib.hid (rowD_out (xs := xs) (y := y) (by omega))
    clear hA hc hx
    go_enter Tryd.func91, Tryd.ntmps91
    go_wp2
    go_ret
    exact mkNum (by rw [HR.out]) (HBw.out _)

set_option maxRecDepth 100000 in
set_option maxHeartbeats 4000000 in
theorem sHas (w : World) (A : Option Addr) (n cap B : Nat) (xs : List Int) (hx : xs.length = n) (ho : okR xs) (h : RowB w B A xs) (hB : B ≤ w.heap.size) (x y : Nat) (hx8 : x < 8) (hy8 : y < 8) :
    Calls Tryd.prog 75 #[.agg #[.slice A n cap], .agg #[.int .i64 (x : Int), .int .i64 (y : Int)]] w (Bol (bitB (rowD xs y) x) w) := by
  obtain ⟨b, off, hA, hc⟩ := h
  have HBw := Lib.hid (fun (o o' : Obj) => below_alloc2 w o o')
  have hn8 : n ≤ 8 := by have := ho.1; omega
  have HR := Lib.hid (rowD_ok ho y)
  by_cases hlt : y < n
  · have hkx : y < xs.length := by omega
    obtain ⟨rfl, hbw⟩ := hA (by omega)
    have hc1 : ∀ W, Below w.heap.size w W → W.cell? ⟨b, off + y, none⟩ = some (.int .i64 (rowD xs y)) := fun W hW =>
      (hW.cell (p := ⟨b, off + y, none⟩) (by show b < _; omega)).trans (by rw [rowD_at (List.getElem?_eq_getElem hkx)]; exact hc y xs[y] (List.getElem?_eq_getElem hkx))
    have HC := Lib.hid (fun (o o' : Obj) => hc1 _ (HBw.out o o'))
    clear hA hc hx hkx hc1 ho
    generalize rowD xs y = r at HC HR ⊢
    obtain ⟨r0, r1⟩ := HR.out
    cases hb : bitB r x with
    | false =>
      have hz := shr_no r0 r1 hx8 hb
      clear hb r0 r1 HR
      have hcs : x = 0 ∨ x = 1 ∨ x = 2 ∨ x = 3 ∨ x = 4 ∨ x = 5 ∨ x = 6 ∨ x = 7 := by omega
      clear hx8
      rcases hcs with rfl | rfl | rfl | rfl | rfl | rfl | rfl | rfl
      all_goals
        have hcell := HC.out
        (try simp only [Int.reducePow, Int.pow_zero, Int.ediv_one] at hz)
        go_enter Tryd.func75, Tryd.ntmps75
        go_wp2_with fail
        go_quiet (fail)
        go_wp2
        go_ret
        exact mkBol rfl (drewN_below (HBw.out _ _) _)
    | true =>
      have hz := shr_yes r0 r1 hx8 hb
      clear hb r0 r1 HR
      have hcs : x = 0 ∨ x = 1 ∨ x = 2 ∨ x = 3 ∨ x = 4 ∨ x = 5 ∨ x = 6 ∨ x = 7 := by omega
      clear hx8
      rcases hcs with rfl | rfl | rfl | rfl | rfl | rfl | rfl | rfl
      all_goals
        have hcell := HC.out
        (try simp only [Int.reducePow, Int.pow_zero, Int.ediv_one] at hz)
        go_enter Tryd.func75, Tryd.ntmps75
        go_wp2_with fail
        go_quiet (fail)
        go_wp2
        go_ret
        exact mkBol rfl (drewN_below (HBw.out _ _) _)
  · have hE := Lib.hid (show bitB (rowD xs y) x = false by rw [rowD_out (by omega)]; exact bitB_zero x)
    clear hA hc hx ho HR hx8
    go_enter Tryd.func75, Tryd.ntmps75
    go_wp2_with fail
    go_quiet (fail)
    go_wp2
    go_ret
    exact mkBol hE.out.symm (drewN_below (HBw.out _ _) _)
end Go.Proofs.YtmaghekcpopepaaDoor.Reg

/- Slices of cells in memory, and what the laws do with them: two are compared, numbers are written into one and read again. -/
namespace Go.Proofs.YtmaghekcpopepaaDoor.Cels
set_option linter.unusedVariables false
open Go.RowKit Go.Proofs.YtmaghekcpopepaaDoor.Base Go.Proofs.YtmaghekcpopepaaDoor.Cell Go.Joins

/-- the cells of a slice, as they lie in memory. -/
def rowC (L : List (Int × Int)) : List Value := L.flatMap fun p => [.int .i64 p.1, .int .i64 p.2]
theorem rowC_snoc (L : List (Int × Int)) (p : Int × Int) : rowC (L ++ [p]) = rowC L ++ [.int .i64 p.1, .int .i64 p.2] := by unfold rowC; simp
theorem rowC_length (L : List (Int × Int)) : (rowC L).length = L.length * 2 := by
  induction L with
  | nil => rfl
  | cons p L ih => unfold rowC at ih ⊢; simp [ih]; omega
/-- an answer: cells in memory of the call's own. -/
def NbPost (L : List (Int × Int)) (w : World) (e : Ending) (w' : World) : Prop :=
  ∃ (A : Option Addr) (cap : Nat), e = .returned (.slice A L.length cap) ∧ w'.ownsRow w.heap.size 68 2 (.slice A L.length cap) L.length (rowC L) ∧ Below w.heap.size w w'

theorem cellInfo : (Tryd.prog.info? 68).map (fun i => (i.zero, i.size, i.bytes)) = some (some (.agg #[.int .i64 0, .int .i64 0]), 2, 16) := by kernel_rfl

theorem rowC_at (L : List (Int × Int)) : ∀ (j : Nat) (p : Int × Int), L[j]? = some p → (rowC L)[j * 2]? = some (.int .i64 p.1) ∧ (rowC L)[j * 2 + 1]? = some (.int .i64 p.2) := by
  induction L with
  | nil => intro j p h; simp at h
  | cons q L ih =>
    intro j p h
    have e : rowC (q :: L) = .int .i64 q.1 :: .int .i64 q.2 :: rowC L := rfl
    rw [e]
    cases j with
    | zero => simp at h; subst h; exact ⟨rfl, rfl⟩
    | succ j =>
      have h' : L[j]? = some p := by simpa using h
      rw [show (j + 1) * 2 = j * 2 + 1 + 1 from by omega]
      exact ih j p h'
/-- cells in a row can be read. -/
def RowC (w : World) (A : Option Addr) (L : List (Int × Int)) : Prop :=
  ∃ b off : Nat, (0 < L.length → A = some ⟨b, off, none⟩ ∧ b < w.heap.size) ∧ ∀ j p, L[j]? = some p → w.cell? ⟨b, off + j * 2, none⟩ = some (.int .i64 p.1) ∧ w.cell? ⟨b, off + j * 2 + 1, none⟩ = some (.int .i64 p.2)
theorem rowC_own {w : World} {base e n cap : Nat} {A : Option Addr} {L : List (Int × Int)} (h : w.ownsRow base e 2 (.slice A n cap) n (rowC L)) : RowC w A L := by
  have hn : L.length = n := by have := h.1; rw [rowC_length] at this; omega
  by_cases h0 : L.length = 0
  · have : L = [] := List.eq_nil_of_length_eq_zero h0
    subst this
    exact ⟨0, 0, fun h => by simp at h, fun j u hu => by simp at hu⟩
  · obtain ⟨g, c, hv, _, hlt⟩ := h.form (by omega)
    injection hv with hA
    subst hA
    refine ⟨g, 0, fun _ => ⟨rfl, hlt⟩, fun j p hp => ?_⟩
    obtain ⟨h1, h2⟩ := rowC_at L j p hp
    have c1 := h.cells (g := g) rfl _ _ h1
    have c2 := h.cells (g := g) rfl _ _ h2
    rw [add_plain] at c1 c2
    simp only [Nat.zero_add]
    exact ⟨c1, c2⟩
theorem RowC.below {w w' : World} {B : Nat} {A : Option Addr} {L : List (Int × Int)} (h : RowC w A L) (hb : Below B w w') (hB : ∀ b off : Nat, A = some ⟨b, off, none⟩ → b < B) : RowC w' A L := by
  obtain ⟨b, off, h1, h2⟩ := h
  refine ⟨b, off, fun hl => ⟨(h1 hl).1, Nat.lt_of_lt_of_le (h1 hl).2 hb.size⟩, fun j p hp => ?_⟩
  have hl : 0 < L.length := by
    rcases Nat.eq_zero_or_pos L.length with h0 | h0
    · rw [List.eq_nil_of_length_eq_zero h0] at hp; simp at hp
    · exact h0
  rw [hb.cell (p := ⟨b, off + j * 2, none⟩) (hB b off (h1 hl).1), hb.cell (p := ⟨b, off + j * 2 + 1, none⟩) (hB b off (h1 hl).1)]
  exact h2 j p hp

/-- the numbers from k on, two a cell. -/
def marksC (k n : Nat) : List (Int × Int) := (List.range n).map fun j => (((k + 2 * j : Nat) : Int), ((k + 2 * j + 1 : Nat) : Int))
theorem marksC_length (k n : Nat) : (marksC k n).length = n := by unfold marksC; simp
theorem marksC_at (k n j : Nat) (h : j < n) : (marksC k n)[j]? = some (((k + 2 * j : Nat) : Int), ((k + 2 * j + 1 : Nat) : Int)) := by unfold marksC; simp [List.getElem?_range h]
theorem rowC_app (L M : List (Int × Int)) : rowC (L ++ M) = rowC L ++ rowC M := by unfold rowC; simp
theorem rowC_put (L : List (Int × Int)) (p q : Int × Int) (M : List (Int × Int)) (j : Nat) (hj : L.length = j) :
    ((rowC (L ++ p :: M)).set (j * 2) (.int .i64 q.1)).set (j * 2 + 1) (.int .i64 q.2) = rowC (L ++ q :: M) := by
  have hl : (rowC L).length = j * 2 := by rw [rowC_length, hj]
  rw [rowC_app, rowC_app, List.set_append_right _ _ (by omega), List.set_append_right _ _ (by omega), hl, Nat.sub_self, show j * 2 + 1 - j * 2 = 1 from by omega]
  rfl
theorem marksC_step (k j n : Nat) (L : List (Int × Int)) (hL : L.length = n) (hj : j < n) :
    ((rowC (marksC k j ++ L.drop j)).set (j * 2) (.int .i64 ((k + 2 * j : Nat) : Int))).set (j * 2 + 1) (.int .i64 ((k + 2 * j + 1 : Nat) : Int)) = rowC (marksC k (j + 1) ++ L.drop (j + 1)) := by
  rw [List.drop_eq_getElem_cons (by omega), rowC_put (marksC k j) L[j] (((k + 2 * j : Nat) : Int), ((k + 2 * j + 1 : Nat) : Int)) _ j (marksC_length k j)]
  congr 1
  unfold marksC
  rw [List.range_succ, List.map_append, List.append_assoc]
  rfl

end Go.Proofs.YtmaghekcpopepaaDoor.Cels

/- CellsOf and CountCells: the program's functions and the model's list the same cells of every region, in new memory. -/
namespace Go.Proofs.YtmaghekcpopepaaDoor.Reg
set_option linter.unusedVariables false
open Go.RowKit Go.Proofs.YtmaghekcpopepaaDoor.Base Go.Proofs.YtmaghekcpopepaaDoor.Pure Go.Proofs.YtmaghekcpopepaaDoor.Cell Go.Proofs.YtmaghekcpopepaaDoor.Cels Go.Joins

theorem cellsTo_yes' {xs : List Int} {y x : Nat} (hx : x < 8) (h : bitB (rowD xs y) x = true) : cellsTo xs (y * 8 + x + 1) = cellsTo xs (y * 8 + x) ++ [((x : Int), (y : Int))] := by
  have e1 : (y * 8 + x) / 8 = y := by omega
  have e2 : (y * 8 + x) % 8 = x := by omega
  rw [cellsTo_yes (by rw [e1, e2]; exact h), e1, e2]
theorem cellsTo_no' {xs : List Int} {y x : Nat} (hx : x < 8) (h : bitB (rowD xs y) x = false) : cellsTo xs (y * 8 + x + 1) = cellsTo xs (y * 8 + x) := by
  have e1 : (y * 8 + x) / 8 = y := by omega
  have e2 : (y * 8 + x) % 8 = x := by omega
  rw [cellsTo_no (by rw [e1, e2]; exact h)]
theorem at_nat {k : Nat} (hk : k < 64) : atX (k : Int) = ((k % 8 : Nat) : Int) ∧ atY (k : Int) = ((k / 8 : Nat) : Int) := by
  obtain ⟨a, b, _⟩ := at_in (n := (k : Int)) (by omega) (by omega)
  rw [a, b]; constructor <;> omega

set_option maxRecDepth 100000 in
set_option maxHeartbeats 2000000 in
theorem sCellsOf (w : World) (A : Option Addr) (n cap B : Nat) (xs : List Int) (hx : xs.length = n) (hn : (n : Int) ≤ 9223372036854775807) (h : RowB w B A xs) (hB : B ≤ w.heap.size) :
    Calls Tryd.prog 47 #[.agg #[.slice A n cap]] w (NbPost (cellsR xs) w) := by
  obtain ⟨i0, hi, hz0, hz1, hz2⟩ := info_parts cellInfo
  have HM := Lib.hid (fun (W : World) => World.ownsRow_made (e := 68) (size := 2) W #[] 0 (Nat.le_refl _) (by unfold maxLen; omega) rfl)
  have HB := Lib.hid (fun (T : TypeId) => (rb_start (T := T) (.slice A n cap) w).2.2)
  have HW := Lib.hid (fun (T : TypeId) => below_alloc1 w (.cells #[.slice A n cap] T))
  have HOk := Lib.hid (fun W (hb : Below w.heap.size w W) => sRegionOk W A n cap B xs hx hn (h.below hb hB) (by have := hb.size; omega))
  have HHs := Lib.hid (fun W (ho : okR xs) (hb : Below w.heap.size w W) x y hx8 hy8 => sHas W A n cap B xs hx ho (h.below hb hB) (by have := hb.size; omega) x y hx8 hy8)
  clear hx hn h hB
  go_enter Tryd.func47, Tryd.ntmps47
  go_wp2_with fail
  have HW1 := Lib.hid (show Below (w.heap.size + 1) (w.alloc (.cells #[.slice A n cap] 26)) ((w.alloc (.cells #[.slice A n cap] 26)).alloc (.cells #[] 68)) from (Below.refl _ _).alloc (by simp) _)
  have HO := Lib.hid (own_base (B' := w.heap.size + 1) (HM.out (w.alloc (.cells #[.slice A n cap] 26))) (by simp))
  have hW0 : (w.alloc (.cells #[.slice A n cap] 26)).heap.size = w.heap.size + 1 := by simp
  have HB0 := Lib.hid (HB.out 26)
  have HBw := Lib.hid (HW.out 26)
  clear HM HB HW
  obtain ⟨W0, hW⟩ : ∃ W0, W0 = w.alloc (.cells #[.slice A n cap] 26) := ⟨_, rfl⟩
  rw [← hW] at HW1 HO hW0 HB0 HBw
  rw [hW0] at HO
  by_cases ho : okR xs
  · rw [okRB_of ho] at HOk
    have HE := Lib.hid (cellsR_ok ho)
    have HHs := Lib.hid (fun W hb x y hx8 hy8 => HHs.out W ho hb x y hx8 hy8)
    clear ho
    go_loopw [3, 4] (fun v i wr => ∃ k : Nat, k ≤ 64 ∧ i = .int .i64 k ∧ wr.ownsRow (w.heap.size + 1) 68 2 v (cellsTo xs k).length (rowC (cellsTo xs k)) ∧ Below (w.heap.size + 1) W0 wr) (fun _ i _ => 64 - (intOf i).toNat)
    case atStart => exact ⟨0, Nat.zero_le _, rfl, by rw [hW] at HO; simpa [cellsTo, rowC] using HO.out, by rw [hW] at HW1 ⊢; exact HW1.out⟩
    case round =>
      clear HW1 HO
      obtain ⟨k, hk, rfl, hown, hb⟩ := hrel
      have hbs := hb.size
      rw [hW0] at hbs
      by_cases hlt : k < 64
      · have hbw := HBw.out.trans (hb.mono (by omega))
        have hc0 := (hb.cell (p := ⟨w.heap.size, 0, none⟩) (by show w.heap.size < _; omega)).trans HB0.out
        go_wp2_with fail
        refine (HOk.out wr hbw).mono ?_
        rintro e w0 ⟨rfl, hbk⟩
        have hown := own_below hown hbk (Nat.le_refl _)
        have hb := hb.trans (hbk.mono (by omega))
        have hbs0 := hbk.size
        clear hbk hc0 hbw
        go_wp2_with fail
        refine (sCellAt k _).mono ?_
        rintro e w1 ⟨rfl, hb1⟩
        have hown1 := own_below hown hb1 (Nat.le_refl _)
        have hbb := hb.trans (hb1.mono (by omega))
        have hb1s := hb1.size
        have hc0 := (hbb.cell (p := ⟨w.heap.size, 0, none⟩) (by show w.heap.size < _; omega)).trans HB0.out
        have hz : w.heap.size < w1.heap.size := by omega
        have hbw := HBw.out.trans (hbb.mono (by omega))
        have HOwn := Lib.hid hown1
        have HBB := Lib.hid hbb
        have HS := Lib.hid hb1s
        have HS0 := Lib.hid hbs0
        have HBs := Lib.hid hbs
        obtain ⟨hax, hay⟩ := at_nat hlt
        rw [hax, hay]
        have HC := Lib.hid (HHs.out _ (hbw.alloc hbw.size (.cells #[.int .i64 ((k % 8 : Nat) : Int), .int .i64 ((k / 8 : Nat) : Int)] 68)) (k % 8) (k / 8) (by omega) (by omega))
        have hn' : bitB (rowD xs (k / 8)) (k % 8) = true ∧ cellsTo xs (k + 1) = cellsTo xs k ++ [(((k % 8 : Nat) : Int), ((k / 8 : Nat) : Int))] ∨ bitB (rowD xs (k / 8)) (k % 8) = false ∧ cellsTo xs (k + 1) = cellsTo xs k := by
          cases hb : bitB (rowD xs (k / 8)) (k % 8) with
          | true => exact .inl ⟨rfl, cellsTo_yes hb⟩
          | false => exact .inr ⟨rfl, cellsTo_no hb⟩
        have HN' := Lib.hid hn'
        clear hown hb hb1 hown1 hbb hb1s hbs hbs0 hax hay hn' hbw
        generalize bitB (rowD xs (k / 8)) (k % 8) = bb at HC HN'
        generalize ((k % 8 : Nat) : Int) = u at HC HN' ⊢
        generalize ((k / 8 : Nat) : Int) = v' at HC HN' ⊢
        go_wp2_with fail
        refine HC.out.mono ?_
        rintro e w2 ⟨rfl, hb2⟩
        clear HC
        have hcc : w2.cell? ⟨w1.heap.size, 0, none⟩ = some (.int .i64 u) ∧ w2.cell? ⟨w1.heap.size, 1, none⟩ = some (.int .i64 v') := by
          have hbl := heap_alloc_new w1 (.cells #[.int .i64 u, .int .i64 v'] 68)
          exact ⟨(hb2.cell (by simp)).trans ((cell_of_row _ _ 0 _ _ _ hbl).trans rfl), (hb2.cell (by simp)).trans ((cell_of_row _ _ 1 _ _ _ hbl).trans rfl)⟩
        obtain ⟨hc2, hc3⟩ := hcc
        have hD : Below (w.heap.size + 1) W0 w2 := (HBB.out.alloc (by have := HS.out; have := HS0.out; have := HBs.out; omega) _).trans (hb2.mono (by simp; have := HS.out; have := HS0.out; have := HBs.out; omega))
        have hE : Below w1.heap.size w1 w2 := (below_alloc1 w1 _).trans (hb2.mono (by simp))
        have HOwn2 := Lib.hid (own_below HOwn.out hE (Nat.le_refl _))
        have hzz : w1.heap.size < w2.heap.size := by have := hb2.size; simp at this; omega
        have HD := Lib.hid hD
        clear hD hE hb2 hc0
        rcases HN'.out with ⟨rfl, hN⟩ | ⟨rfl, hN⟩
        · have HN := Lib.hid hN
          clear hN HN'
          have HL := Lib.hid (cellsTo_length xs k)
          go_wp2_with (first
            | (at_builtin; refine wpList_append_own _ rfl _ _ 69 rfl (w.heap.size + 1) 68 i0 (.agg #[.int .i64 0, .int .i64 0]) 2 16 Tryd.underlying69 hi hz0 hz1 hz2 rfl (by decide) _ (cellsTo xs k).length (rowC (cellsTo xs k)) rfl (HOwn2.out.alloc _) ⟨w2.heap.size, 0, none⟩ 1 1 [.int .i64 u, .int .i64 v'] rfl rfl (World.news_of_block (cs := #[.int .i64 u, .int .i64 v']) (t := 68) (fr := (0, 0)) (heap_alloc_new w2 _)) (by simp [Value.oneCell']) (by have := HL.out; unfold maxLen; omega) (by have := HL.out; omega) (by have := HS.out; have := HS0.out; have := HBs.out; simp; omega) ?_; intro v2 w3 hown3 hgrow _))
          have hb3 : Below (w.heap.size + 1) W0 w3 := (HD.out.alloc (by have := HS.out; have := HS0.out; have := HBs.out; omega) _).grown hgrow (by simp; have := HS.out; have := HS0.out; have := HBs.out; omega) (fun g hg => (HOwn2.out.lt g hg).1)
          have R := Lib.hid (show w3.ownsRow (w.heap.size + 1) 68 2 v2 (cellsTo xs (k + 1)).length (rowC (cellsTo xs (k + 1))) by
            rw [HN.out, rowC_snoc, List.length_append]; exact hown3)
          clear hown3 hgrow
          go_wp2
          go_roundw
          case rel => exact ⟨k + 1, by omega, by go_num, R.out, hb3⟩
          case measure => (simp [intOf] <;> omega)
        · have HN := Lib.hid hN
          clear hN HN'
          go_wp2
          go_roundw
          case rel => exact ⟨k + 1, by omega, by go_num, by rw [HN.out]; exact HOwn2.out, HD.out⟩
          case measure => (simp [intOf] <;> omega)
      · obtain rfl : k = 64 := by omega
        obtain ⟨A, cap, rfl⟩ := own_shape hown
        have HOwn := Lib.hid hown
        have HEnd := Lib.hid (HBw.out.trans (hb.mono (B' := w.heap.size) (by omega)))
        clear hown hb
        go_wp2
        go_ret
        rw [HE.out]
        exact ⟨A, cap, rfl, own_base HOwn.out (by omega), HEnd.out⟩
  · rw [okRB_not ho] at HOk
    have HE := Lib.hid (cellsR_not ho)
    clear ho HHs
    go_loopw [3, 4] (fun v i wr => i = .int .i64 0 ∧ wr.ownsRow (w.heap.size + 1) 68 2 v 0 [] ∧ Below (w.heap.size + 1) W0 wr) (fun _ i _ => 64 - (intOf i).toNat)
    case atStart => exact ⟨rfl, by rw [hW] at HO; exact HO.out, by rw [hW] at HW1 ⊢; exact HW1.out⟩
    case round =>
      clear HW1 HO
      obtain ⟨rfl, hown, hb⟩ := hrel
      have hbs := hb.size
      rw [hW0] at hbs
      have hbw := HBw.out.trans (hb.mono (by omega))
      have hc0 := (hb.cell (p := ⟨w.heap.size, 0, none⟩) (by show w.heap.size < _; omega)).trans HB0.out
      go_wp2_with fail
      refine (HOk.out wr hbw).mono ?_
      rintro e w0 ⟨rfl, hbk⟩
      have hown := own_below hown hbk (Nat.le_refl _)
      have hb := hbw.trans (hbk.mono (B' := w.heap.size) (by omega))
      obtain ⟨A, cap, rfl⟩ := own_shape hown
      have HOwn := Lib.hid hown
      clear hown hbk hc0 hbw
      go_wp2
      go_ret
      rw [HE.out]
      exact ⟨A, cap, rfl, own_base HOwn.out (by omega), hb⟩

set_option maxRecDepth 100000 in
set_option maxHeartbeats 2000000 in
theorem iCellsOf (w : World) (A : Option Addr) (n cap B : Nat) (xs : List Int) (hx : xs.length = n) (hn : (n : Int) ≤ 9223372036854775807) (h : RowB w B A xs) (hB : B ≤ w.heap.size) :
    Calls Tryd.prog 64 #[.agg #[.slice A n cap]] w (NbPost (cellsR xs) w) := by
  obtain ⟨i0, hi, hz0, hz1, hz2⟩ := info_parts cellInfo
  have T0 := Lib.hid (fun T => rb_start (T := T) (.slice A n cap) w)
  have HOk := Lib.hid (fun W (hb : Below w.heap.size w W) => iRegionOk W A n cap B xs hx hn (h.below hb hB) (by have := hb.size; omega))
  have HRow := Lib.hid (fun W (hb : Below w.heap.size w W) => h.below hb hB)
  have HX := Lib.hid hx
  clear hx h
  go_enter Tryd.func64, Tryd.ntmps64
  go_wp2_with fail
  have T1 := T0.out 26
  refine (HOk.out _ T1.1).mono ?_
  rintro e w1 ⟨rfl, hb1⟩
  have T2 := T1.on hb1
  clear T0 T1 hb1 HOk
  have hbw := T2.1
  by_cases ho : okR xs
  · rw [okRB_of ho]
    have HE := Lib.hid (show cellsR xs = cellsTo xs (n * 8) by rw [cellsR_ok' ho, HX.out])
    obtain ⟨_, hsz, c0⟩ := id T2
    have hn8 : n ≤ 8 := by have := ho.1; have := HX.out; omega
    have HNil := Lib.hid (World.ownsRow_nil w1 w.heap.size 68 2)
    have HOR := Lib.hid (fun y => rowD_ok ho y)
    have HXR := Lib.hid (fun y (hy : y < xs.length) => rowD_at (List.getElem?_eq_getElem (l := xs) hy))
    clear T2 ho
    go_wp2_with fail
    go_loopw [3, 13] (fun v i wr => ∃ y : Nat, y ≤ n ∧ i = .int .i64 y ∧ wr.ownsRow w.heap.size 68 2 v (cellsTo xs (y * 8)).length (rowC (cellsTo xs (y * 8))) ∧ Below w.heap.size w wr) (fun _ i _ => n - (intOf i).toNat)
    case atStart => exact ⟨0, Nat.zero_le _, rfl, by simpa [cellsTo, rowC] using HNil.out, hbw⟩
    case round =>
      clear HNil hbw c0 hsz
      obtain ⟨y, hy, rfl, hown, hb⟩ := hrel
      have hbs := hb.size
      by_cases hlt : y < n
      · have hyx : y < xs.length := by have := HX.out; omega
        obtain ⟨b, off, hA, hc⟩ := HRow.out wr hb
        obtain ⟨rfl, hbB⟩ := hA (by omega)
        have hc1 := hc y xs[y] (List.getElem?_eq_getElem hyx)
        have hr := HOR.out y
        have HRE := Lib.hid (HXR.out y hyx)
        rw [HRE.out] at hr
        generalize xs[y] = r at hc1 hr HRE
        have HKd := Lib.hid (fun x hx8 W => iKindAt r x hr.1 hr.2 hx8 W)
        have HOwn0 := Lib.hid hown
        clear hA hc hr hown
        go_wp2_with fail
        go_loopw [3, 18] (fun v i wr => ∃ x : Nat, x ≤ 8 ∧ i = .int .i64 x ∧ wr.ownsRow w.heap.size 68 2 v (cellsTo xs (y * 8 + x)).length (rowC (cellsTo xs (y * 8 + x))) ∧ Below w.heap.size w wr) (fun _ i _ => 8 - (intOf i).toNat)
        case atStart => exact ⟨0, Nat.zero_le _, rfl, HOwn0.out, hb⟩
        case round =>
          clear HOwn0 hb hc1
          obtain ⟨x, hx8, rfl, hown, hb⟩ := hrel
          have hbs := hb.size
          by_cases hlx : x < 8
          · have HC := Lib.hid (fun W => HKd.out x hlx W)
            have hcs : kindN r x = 1 ∧ Hid (cellsTo xs (y * 8 + (x + 1)) = cellsTo xs (y * 8 + x) ++ [((x : Int), (y : Int))]) ∨ kindN r x = 0 ∧ Hid (cellsTo xs (y * 8 + (x + 1)) = cellsTo xs (y * 8 + x)) := by
              cases hb : bitB r x with
              | true => exact .inl ⟨kindN_yes hb, Lib.hid (cellsTo_yes' hlx (by rw [HRE.out]; exact hb))⟩
              | false => exact .inr ⟨kindN_no hb, Lib.hid (cellsTo_no' hlx (by rw [HRE.out]; exact hb))⟩
            generalize kindN r x = kd at HC hcs
            have HOwn2 := Lib.hid hown
            have HL := Lib.hid (cellsTo_length xs (y * 8 + x))
            clear hown
            go_wp2_with fail
            refine (HC.out _).mono ?_
            rintro e w2 ⟨rfl, rfl⟩
            clear HC
            rcases hcs with ⟨rfl, HN⟩ | ⟨rfl, HN⟩
            · go_wp2_with (first
                | (at_builtin; refine wpList_append_own _ rfl _ _ 69 rfl w.heap.size 68 i0 (.agg #[.int .i64 0, .int .i64 0]) 2 16 Tryd.underlying69 hi hz0 hz1 hz2 rfl (by decide) _ (cellsTo xs (y * 8 + x)).length (rowC (cellsTo xs (y * 8 + x))) rfl (HOwn2.out.alloc _) ⟨w2.heap.size, 0, none⟩ 1 1 [.int .i64 (x : Int), .int .i64 (y : Int)] rfl rfl (World.news_of_block (cs := #[.int .i64 (x : Int), .int .i64 (y : Int)]) (t := 68) (fr := (0, 0)) (heap_alloc_new w2 _)) (by simp [Value.oneCell']) (by have := HL.out; unfold maxLen; omega) (by have := HL.out; omega) (by simp; omega) ?_; intro v2 w3 hown3 hgrow _))
              have hb3 : Below w.heap.size w w3 := (hb.alloc hbs _).grown hgrow (by simp; omega) (fun g hg => (HOwn2.out.lt g hg).1)
              have R := Lib.hid (show w3.ownsRow w.heap.size 68 2 v2 (cellsTo xs (y * 8 + (x + 1))).length (rowC (cellsTo xs (y * 8 + (x + 1)))) by
                rw [HN.out, rowC_snoc, List.length_append]; exact hown3)
              clear hown3 hgrow hb
              go_wp2
              go_roundw
              case rel => exact ⟨x + 1, by omega, by go_num, R.out, hb3⟩
              case measure => (simp [intOf] <;> omega)
            · go_wp2
              go_roundw
              case rel => exact ⟨x + 1, by omega, by go_num, by rw [HN.out]; exact HOwn2.out, hb⟩
              case measure => (simp [intOf] <;> omega)
          · obtain rfl : x = 8 := by omega
            have HOwn2 := Lib.hid (show _ by rw [show y * 8 + 8 = (y + 1) * 8 by omega] at hown; exact hown)
            clear hown
            go_wp2
            go_roundw
            case rel => exact ⟨y + 1, by omega, by go_num, HOwn2.out, hb⟩
            case measure => (simp [intOf] <;> omega)
      · obtain rfl : y = n := by omega
        obtain ⟨A', cap', rfl⟩ := own_shape hown
        have HOwn := Lib.hid hown
        clear hown
        go_wp2
        go_ret
        rw [HE.out]
        exact ⟨A', cap', rfl, HOwn.out, hb⟩
  · rw [okRB_not ho]
    have HE := Lib.hid (cellsR_not ho)
    clear ho T2
    go_wp2
    go_ret
    rw [HE.out]
    exact ⟨none, 0, rfl, ⟨rfl, .inl ⟨rfl, rfl⟩⟩, hbw⟩
end Go.Proofs.YtmaghekcpopepaaDoor.Reg

/- HasCell: the program's function and the model's say the same of every region and every cell. -/
namespace Go.Proofs.YtmaghekcpopepaaDoor.Reg
set_option linter.unusedVariables false
open Go.RowKit Go.Proofs.YtmaghekcpopepaaDoor.Base Go.Proofs.YtmaghekcpopepaaDoor.Pure Go.Proofs.YtmaghekcpopepaaDoor.Cell Go.Joins

/-- two parameters' boxes, a region's and a cell's, in a world behind their making. -/
def RC (w : World) (v : Value) (x y : Int) (W : World) : Prop :=
  Below w.heap.size w W ∧ w.heap.size + 2 ≤ W.heap.size ∧ W.cell? ⟨w.heap.size, 0, none⟩ = some v ∧ W.cell? ⟨w.heap.size + 1, 0, none⟩ = some (.int .i64 x) ∧ W.cell? ⟨w.heap.size + 1, 1, none⟩ = some (.int .i64 y)
theorem rc_start {T T' : TypeId} (v : Value) (x y : Int) (w : World) : RC w v x y ((w.alloc (.cells #[v] T)).alloc (.cells #[.int .i64 x, .int .i64 y] T')) := by
  have e1 : ((w.alloc (.cells #[v] T)).alloc (.cells #[.int .i64 x, .int .i64 y] T')).heap[w.heap.size]? = some (.cells #[v] T) := by
    show ((w.heap.push _).push _)[w.heap.size]? = _
    rw [Array.getElem?_push_lt (by simp)]
    simp
  have e2 : ((w.alloc (.cells #[v] T)).alloc (.cells #[.int .i64 x, .int .i64 y] T')).heap[w.heap.size + 1]? = some (.cells #[.int .i64 x, .int .i64 y] T') := by
    show ((w.heap.push _).push _)[w.heap.size + 1]? = _
    have : w.heap.size + 1 = (w.heap.push (.cells #[v] T)).size := by simp
    rw [this]
    exact Array.getElem?_push_size
  exact ⟨below_alloc2 w _ _, by simp, (cell_of_row _ _ 0 _ _ _ e1).trans rfl, (cell_of_row _ _ 0 _ _ _ e2).trans rfl, (cell_of_row _ _ 1 _ _ _ e2).trans rfl⟩
theorem RC.on {w W W' : World} {v : Value} {x y : Int} (h : RC w v x y W) (hb : Below W.heap.size W W') : RC w v x y W' := by
  obtain ⟨h0, h1, h2, h3, h4⟩ := h
  have hz := hb.size
  refine ⟨h0.trans (hb.mono h0.size), by omega, ?_, ?_, ?_⟩
  · rw [hb.cell (by show w.heap.size < _; omega)]; exact h2
  · rw [hb.cell (by show w.heap.size + 1 < _; omega)]; exact h3
  · rw [hb.cell (by show w.heap.size + 1 < _; omega)]; exact h4
theorem RC.drew {w W : World} {v : Value} {x y : Int} (h : RC w v x y W) : RC w v x y W.drew := ⟨h.1.drew, h.2⟩
theorem RC.drewN {w W : World} {v : Value} {x y : Int} (h : RC w v x y W) (n : Nat) : RC w v x y (W.drewN n) := ⟨drewN_below h.1 n, h.2⟩

theorem has_no_ok {xs : List Int} (h : ¬ okR xs) (x y : Int) : hasB xs x y = false := by
  rw [Bool.eq_false_iff]; intro k; exact h (hasB_iff.1 k).1
theorem has_no_cell {xs : List Int} {x y : Int} (h : ¬ Ok x y) : hasB xs x y = false := by
  rw [Bool.eq_false_iff]; intro k; exact h ⟨(hasB_iff.1 k).2.1, (hasB_iff.1 k).2.2.1, (hasB_iff.1 k).2.2.2.1, (hasB_iff.1 k).2.2.2.2.1⟩
theorem has_at {xs : List Int} (h : okR xs) {x y : Nat} (hx : x < 8) (hy : y < 8) : hasB xs (x : Int) (y : Int) = bitB (rowD xs y) x := by
  rw [Bool.eq_iff_iff, hasB_iff, Int.toNat_natCast, Int.toNat_natCast]
  constructor
  · exact fun k => k.2.2.2.2.2
  · exact fun k => ⟨h, by omega, by omega, by omega, by omega, k⟩
theorem ok_nat {x y : Int} (h : Ok x y) : ∃ (x' y' : Nat), x = (x' : Int) ∧ y = (y' : Int) ∧ x' < 8 ∧ y' < 8 := by
  obtain ⟨a, b, c, d⟩ := h
  exact ⟨x.toNat, y.toNat, by omega, by omega, by omega, by omega⟩

set_option maxRecDepth 100000 in
set_option maxHeartbeats 1000000 in
theorem sHasCell (w : World) (A : Option Addr) (n cap B : Nat) (xs : List Int) (hx : xs.length = n) (hn : (n : Int) ≤ 9223372036854775807) (h : RowB w B A xs) (hB : B ≤ w.heap.size) (x y : Int) :
    Calls Tryd.prog 68 #[.agg #[.slice A n cap], .agg #[.int .i64 x, .int .i64 y]] w (Bol (hasB xs x y) w) := by
  have T0 := Lib.hid (fun T T' => rc_start (T := T) (T' := T') (.slice A n cap) x y w)
  have HOk := Lib.hid (fun W (hr : RC w (.slice A n cap) x y W) => sRegionOk W A n cap B xs hx hn (h.below hr.1 hB) (by have := hr.2.1; omega))
  have HHs := Lib.hid (fun W (x' y' : Nat) (ho : okR xs) (hr : RC w (.slice A n cap) x y W) hx8 hy8 => sHas W A n cap B xs hx ho (h.below hr.1 hB) (by have := hr.2.1; omega) x' y' hx8 hy8)
  clear hx hn h hB
  go_enter Tryd.func68, Tryd.ntmps68
  go_wp2_with fail
  have T1 := T0.out 26 68
  refine (HOk.out _ T1).mono ?_
  rintro e w1 ⟨rfl, hb1⟩
  have T2 := T1.on hb1
  clear T0 T1 hb1 HOk
  by_cases ho : okR xs
  · rw [okRB_of ho]
    obtain ⟨_, _, c0, c1, c2⟩ := id T2
    go_wp2_with fail
    refine (sCellOk x y _).mono ?_
    rintro e w2 ⟨rfl, hb2⟩
    have T3 := T2.on hb2
    clear T2 c0 c1 c2 hb2
    by_cases hok : Ok x y
    · rw [okB_of hok]
      obtain ⟨x', y', rfl, rfl, hx8, hy8⟩ := ok_nat hok
      have HE := Lib.hid (has_at ho hx8 hy8)
      obtain ⟨_, _, c0, c1, c2⟩ := id T3
      have HC := Lib.hid (HHs.out w2 x' y' ho T3 hx8 hy8)
      clear HHs hok hx8 hy8 ho
      go_wp2_with fail
      refine HC.out.mono ?_
      rintro e w3 ⟨rfl, hb3⟩
      have hb := (T3.on hb3).1
      clear T3 HC hb3 c0 c1 c2
      go_wp2
      go_ret
      exact mkBol HE.out.symm hb
    · rw [okB_not hok]
      have HE := Lib.hid (has_no_cell (xs := xs) hok)
      have hb := T3.1
      clear T3 hok ho HHs
      go_wp2
      go_ret
      exact mkBol HE.out.symm hb
  · rw [okRB_not ho]
    have HE := Lib.hid (has_no_ok ho x y)
    have hb := T2.1
    clear T2 ho HHs
    go_wp2
    go_ret
    exact mkBol HE.out.symm hb

theorem kindN' (r : Int) (k : Nat) (h0 : 0 ≤ r) (h1 : r ≤ 255) (hk : k < 8) (w : World) :
    Calls Tryd.prog 85 #[.int .i64 r, .int .i64 (k : Int)] w (Num (kindN r k) w) := by
  refine (iKindAt r k h0 h1 hk w).mono ?_
  rintro e w' ⟨rfl, rfl⟩
  exact ⟨rfl, Below.refl _ _⟩

set_option maxRecDepth 100000 in
set_option maxHeartbeats 2000000 in
theorem iHasCell (w : World) (A : Option Addr) (n cap B : Nat) (xs : List Int) (hx : xs.length = n) (hn : (n : Int) ≤ 9223372036854775807) (h : RowB w B A xs) (hB : B ≤ w.heap.size) (x y : Int) :
    Calls Tryd.prog 86 #[.agg #[.slice A n cap], .agg #[.int .i64 x, .int .i64 y]] w (Bol (hasB xs x y) w) := by
  have T0 := Lib.hid (fun T T' => rc_start (T := T) (T' := T') (.slice A n cap) x y w)
  have HOk := Lib.hid (fun W (hr : RC w (.slice A n cap) x y W) => iRegionOk W A n cap B xs hx hn (h.below hr.1 hB) (by have := hr.2.1; omega))
  have HRw := Lib.hid (fun W (y' : Nat) (hr : RC w (.slice A n cap) x y W) => iRowAt W A n cap B xs hx hn (h.below hr.1 hB) (by have := hr.2.1; omega) y')
  clear hx hn h hB
  by_cases ho : okR xs
  · rw [okRB_of ho] at HOk
    by_cases hok : Ok x y
    · have HCk := Lib.hid (fun W => cellOk x y W)
      rw [okB_of hok] at HCk
      obtain ⟨x', y', rfl, rfl, hx8, hy8⟩ := ok_nat hok
      have HE := Lib.hid (has_at ho hx8 hy8)
      have HRo := Lib.hid (fun W => HRw.out W y')
      have hr := rowD_ok ho y'
      clear HRw
      generalize rowD xs y' = r at HE HRo hr
      have HKd := Lib.hid (fun W => kindN' r x' hr.1 hr.2 hx8 W)
      have hkn : bitB r x' = true ∧ kindN r x' = 1 ∨ bitB r x' = false ∧ kindN r x' = 0 := by
        cases hb : bitB r x' with
        | true => exact .inl ⟨rfl, kindN_yes hb⟩
        | false => exact .inr ⟨rfl, kindN_no hb⟩
      generalize kindN r x' = kd at HKd hkn
      rw [HE.out]
      clear hr hx8 hy8 ho hok HE
      rcases hkn with ⟨hb, rfl⟩ | ⟨hb, rfl⟩
      all_goals
        rw [hb]
        clear hb
        go_enter Tryd.func86, Tryd.ntmps86
        go_wp2_with fail
        have T1 := T0.out 26 68
        generalize (w.alloc (.cells #[.slice A n cap] 26)).alloc (.cells #[.int .i64 (x' : Int), .int .i64 (y' : Int)] 68) = W at T1 ⊢
        clear T0
        go_region_held3 (fun w' => Below w.heap.size w w' ∧ w.heap.size + 2 ≤ w'.heap.size ∧ w'.cell? ⟨w.heap.size, 0, none⟩ = some (.slice A n cap) ∧ w'.cell? ⟨w.heap.size + 1, 0, none⟩ = some (.int .i64 (x' : Int)) ∧ w'.cell? ⟨w.heap.size + 1, 1, none⟩ = some (.int .i64 (y' : Int)))
          (first | assumption | exact RC.drew (by assumption) | exact RC.on (by assumption) (by assumption))
          (first | (go_at_call 34; refine (HOk.out _ (by assumption)).mono ?_; rintro e wx ⟨rfl, hbx⟩) | (go_at_call 90; refine (HCk.out _).mono ?_; rintro e wx ⟨rfl, hbx⟩) | (go_at_call 91; refine (HRo.out _ (by assumption)).mono ?_; rintro e wx ⟨rfl, hbx⟩) | (go_at_call 85; refine (HKd.out _).mono ?_; rintro e wx ⟨rfl, hbx⟩))
        all_goals
          have T9 : RC w (.slice A n cap) (x' : Int) (y' : Int) wx := by assumption
          have hb := T9.1
          clear T9
          go_wp2
          go_ret
          exact mkBol rfl hb
    · have HCk := Lib.hid (fun W => cellOk x y W)
      rw [okB_not hok] at HCk
      have HE := Lib.hid (has_no_cell (xs := xs) hok)
      clear HRw hok ho
      go_enter Tryd.func86, Tryd.ntmps86
      go_wp2_with fail
      have T1 := T0.out 26 68
      generalize (w.alloc (.cells #[.slice A n cap] 26)).alloc (.cells #[.int .i64 x, .int .i64 y] 68) = W at T1 ⊢
      clear T0
      refine wp_region_noPanic ?_
      refine wp_region_held_drew (S := (fun w' => Below w.heap.size w w' ∧ w.heap.size + 2 ≤ w'.heap.size ∧ w'.cell? ⟨w.heap.size, 0, none⟩ = some (.slice A n cap) ∧ w'.cell? ⟨w.heap.size + 1, 0, none⟩ = some (.int .i64 x) ∧ w'.cell? ⟨w.heap.size + 1, 1, none⟩ = some (.int .i64 y))) (by kernel_rfl) (RC.drew T1) (fun hHeld => ?_)
      refine wpAnyH_take (i := 0) (v := ?_) rfl (by kernel_rfl) (by kernel_rfl) (by kernel_rfl) (fun _ _ _ h => h) (Or.inl ⟨by rfl, ?_⟩) (by assumption) ?_
      rotate_left
      · (intro w' hS; (try dsimp only at hS); go_simp; try with_reducible rfl)
      try simp only [Act.put, List.getElem_toArray, List.getElem_cons_zero, List.setIfInBounds_toArray, List.set_cons_zero, List.set_cons_succ]
      refine wpAnyH_ready (rs := [1]) (by kernel_rfl) (by simp) ?_
      refine AllReadyH.cons rfl (fun K hK => ?_) AllReadyH.nil
      go_simp
      refine (HOk.out _ (by assumption)).mono ?_
      rintro e wx ⟨rfl, hbx⟩
      go_wp2_with fail
      refine hK.out _ _ (RC.on (by assumption) hbx) (fun hHeld => ?_)
      clear hK K
      try simp only [Act.put, List.getElem_toArray, List.getElem_cons_succ, List.getElem_cons_zero, List.setIfInBounds_toArray, List.set_cons_zero, List.set_cons_succ]
      refine wpAnyH_take (i := 2) (v := ?_) rfl (by kernel_rfl) (by kernel_rfl) (by kernel_rfl) (fun _ _ _ h => h) (Or.inl ⟨by rfl, ?_⟩) (by assumption) ?_
      rotate_left
      · (intro w' hS; (try dsimp only at hS); go_simp; try with_reducible rfl)
      try simp only [Act.put, List.getElem_toArray, List.getElem_cons_succ, List.getElem_cons_zero, List.setIfInBounds_toArray, List.set_cons_zero, List.set_cons_succ]
      refine wpAnyH_take (i := 3) (v := ?_) rfl (by kernel_rfl) (by kernel_rfl) (by kernel_rfl) (fun _ _ _ h => h) (Or.inl ⟨by rfl, ?_⟩) (by assumption) ?_
      rotate_left
      · (intro w' hS; (try dsimp only at hS); go_simp; try with_reducible rfl)
      try simp only [Act.put, List.getElem_toArray, List.getElem_cons_succ, List.getElem_cons_zero, List.setIfInBounds_toArray, List.set_cons_zero, List.set_cons_succ]
      refine wpAnyH_ready (rs := [4]) (by kernel_rfl) (by simp) ?_
      refine AllReadyH.cons rfl (fun K hK => ?_) AllReadyH.nil
      go_simp
      refine (HCk.out _).mono ?_
      rintro e wx ⟨rfl, hbx⟩
      go_wp2_with fail
      refine hK.out _ _ (RC.on (by assumption) hbx) (fun hHeld => ?_)
      clear hK K
      try simp only [Act.put, List.getElem_toArray, List.getElem_cons_succ, List.getElem_cons_zero, List.setIfInBounds_toArray, List.set_cons_zero, List.set_cons_succ]
      refine wpAnyH_take (i := 5) (v := ?_) rfl (by kernel_rfl) (by kernel_rfl) (by kernel_rfl) (fun _ _ _ h => h) (Or.inl ⟨by rfl, ?_⟩) (by assumption) ?_
      rotate_left
      · (intro w' hS; (try dsimp only at hS); go_simp; try with_reducible rfl)
      try simp only [Act.put, List.getElem_toArray, List.getElem_cons_succ, List.getElem_cons_zero, List.setIfInBounds_toArray, List.set_cons_zero, List.set_cons_succ]
      refine wpAnyH_take (i := 6) (v := ?_) rfl (by kernel_rfl) (by kernel_rfl) (by kernel_rfl) (fun _ _ _ h => h) (Or.inl ⟨by rfl, ?_⟩) (by assumption) ?_
      rotate_left
      · (intro w' hS; (try dsimp only at hS); go_simp; try with_reducible rfl)
      try simp only [Act.put, List.getElem_toArray, List.getElem_cons_succ, List.getElem_cons_zero, List.setIfInBounds_toArray, List.set_cons_zero, List.set_cons_succ]
      refine wpAnyH_take (i := 7) (v := undef) rfl (by kernel_rfl) (by kernel_rfl) (by kernel_rfl) (fun _ _ _ h => h) (Or.inr ⟨by rfl, rfl⟩) (by assumption) ?_
      try simp only [Act.put, List.getElem_toArray, List.getElem_cons_succ, List.getElem_cons_zero, List.setIfInBounds_toArray, List.set_cons_zero, List.set_cons_succ]
      refine wpAnyH_take (i := 8) (v := undef) rfl (by kernel_rfl) (by kernel_rfl) (by kernel_rfl) (fun _ _ _ h => h) (Or.inr ⟨by rfl, rfl⟩) (by assumption) ?_
      try simp only [Act.put, List.getElem_toArray, List.getElem_cons_succ, List.getElem_cons_zero, List.setIfInBounds_toArray, List.set_cons_zero, List.set_cons_succ]
      refine wpAnyH_take (i := 9) (v := undef) rfl (by kernel_rfl) (by kernel_rfl) (by kernel_rfl) (fun _ _ _ h => h) (Or.inr ⟨by rfl, rfl⟩) (by assumption) ?_
      try simp only [Act.put, List.getElem_toArray, List.getElem_cons_succ, List.getElem_cons_zero, List.setIfInBounds_toArray, List.set_cons_zero, List.set_cons_succ]
      refine wpAnyH_take (i := 10) (v := undef) rfl (by kernel_rfl) (by kernel_rfl) (by kernel_rfl) (fun _ _ _ h => h) (Or.inr ⟨by rfl, rfl⟩) (by assumption) ?_
      try simp only [Act.put, List.getElem_toArray, List.getElem_cons_succ, List.getElem_cons_zero, List.setIfInBounds_toArray, List.set_cons_zero, List.set_cons_succ]
      refine wpAnyH_take (i := 11) (v := undef) rfl (by kernel_rfl) (by kernel_rfl) (by kernel_rfl) (fun _ _ _ h => h) (Or.inr ⟨by rfl, rfl⟩) (by assumption) ?_
      try simp only [Act.put, List.getElem_toArray, List.getElem_cons_succ, List.getElem_cons_zero, List.setIfInBounds_toArray, List.set_cons_zero, List.set_cons_succ]
      refine wpAnyH_take (i := 12) (v := undef) rfl (by kernel_rfl) (by kernel_rfl) (by kernel_rfl) (fun _ _ _ h => h) (Or.inr ⟨by rfl, rfl⟩) (by assumption) ?_
      try simp only [Act.put, List.getElem_toArray, List.getElem_cons_succ, List.getElem_cons_zero, List.setIfInBounds_toArray, List.set_cons_zero, List.set_cons_succ]
      refine wpAnyH_take (i := 13) (v := undef) rfl (by kernel_rfl) (by kernel_rfl) (by kernel_rfl) (fun _ _ _ h => h) (Or.inr ⟨by rfl, rfl⟩) (by assumption) ?_
      try simp only [Act.put, List.getElem_toArray, List.getElem_cons_succ, List.getElem_cons_zero, List.setIfInBounds_toArray, List.set_cons_zero, List.set_cons_succ]
      refine wpAnyH_take (i := 14) (v := undef) rfl (by kernel_rfl) (by kernel_rfl) (by kernel_rfl) (fun _ _ _ h => h) (Or.inr ⟨by rfl, rfl⟩) (by assumption) ?_
      try simp only [Act.put, List.getElem_toArray, List.getElem_cons_succ, List.getElem_cons_zero, List.setIfInBounds_toArray, List.set_cons_zero, List.set_cons_succ]
      refine wpAnyH_take (i := 15) (v := ?_) rfl (by kernel_rfl) (by kernel_rfl) (by kernel_rfl) (fun _ _ _ h => h) (Or.inl ⟨by rfl, ?_⟩) (by assumption) ?_
      rotate_left
      · (intro w' hS; (try dsimp only at hS); go_simp; try with_reducible rfl)
      try simp only [Act.put, List.getElem_toArray, List.getElem_cons_succ, List.getElem_cons_zero, List.setIfInBounds_toArray, List.set_cons_zero, List.set_cons_succ]
      refine wpAnyH_take (i := 16) (v := ?_) rfl (by kernel_rfl) (by kernel_rfl) (by kernel_rfl) (fun _ _ _ h => h) (Or.inl ⟨by rfl, ?_⟩) (by assumption) ?_
      rotate_left
      · (intro w' hS; (try dsimp only at hS); go_simp; try with_reducible rfl)
      try simp only [Act.put, List.getElem_toArray, List.getElem_cons_succ, List.getElem_cons_zero, List.setIfInBounds_toArray, List.set_cons_zero, List.set_cons_succ]
      refine wpAnyH_done (by kernel_rfl) ?_ _
      refine NoPanic.normal ?_
      have T9 : RC w (.slice A n cap) x y wx := by assumption
      have hb := T9.1
      clear T9
      go_wp2
      go_ret
      exact mkBol HE.out.symm hb
  · rw [okRB_not ho] at HOk
    have HE := Lib.hid (has_no_ok ho x y)
    clear HRw ho
    go_enter Tryd.func86, Tryd.ntmps86
    go_wp2_with fail
    have T1 := T0.out 26 68
    generalize (w.alloc (.cells #[.slice A n cap] 26)).alloc (.cells #[.int .i64 x, .int .i64 y] 68) = W at T1 ⊢
    clear T0
    refine wp_region_noPanic ?_
    refine wp_region_held_drew (S := (fun w' => Below w.heap.size w w' ∧ w.heap.size + 2 ≤ w'.heap.size ∧ w'.cell? ⟨w.heap.size, 0, none⟩ = some (.slice A n cap) ∧ w'.cell? ⟨w.heap.size + 1, 0, none⟩ = some (.int .i64 x) ∧ w'.cell? ⟨w.heap.size + 1, 1, none⟩ = some (.int .i64 y))) (by kernel_rfl) (RC.drew T1) (fun hHeld => ?_)
    refine wpAnyH_take (i := 0) (v := ?_) rfl (by kernel_rfl) (by kernel_rfl) (by kernel_rfl) (fun _ _ _ h => h) (Or.inl ⟨by rfl, ?_⟩) (by assumption) ?_
    rotate_left
    · (intro w' hS; (try dsimp only at hS); go_simp; try with_reducible rfl)
    try simp only [Act.put, List.getElem_toArray, List.getElem_cons_zero, List.setIfInBounds_toArray, List.set_cons_zero, List.set_cons_succ]
    refine wpAnyH_ready (rs := [1]) (by kernel_rfl) (by simp) ?_
    refine AllReadyH.cons rfl (fun K hK => ?_) AllReadyH.nil
    go_simp
    refine (HOk.out _ (by assumption)).mono ?_
    rintro e wx ⟨rfl, hbx⟩
    go_wp2_with fail
    refine hK.out _ _ (RC.on (by assumption) hbx) (fun hHeld => ?_)
    clear hK K
    try simp only [Act.put, List.getElem_toArray, List.getElem_cons_succ, List.getElem_cons_zero, List.setIfInBounds_toArray, List.set_cons_zero, List.set_cons_succ]
    refine wpAnyH_take (i := 2) (v := ?_) rfl (by kernel_rfl) (by kernel_rfl) (by kernel_rfl) (fun _ _ _ h => h) (Or.inl ⟨by rfl, ?_⟩) (by assumption) ?_
    rotate_left
    · (intro w' hS; (try dsimp only at hS); go_simp; try with_reducible rfl)
    try simp only [Act.put, List.getElem_toArray, List.getElem_cons_succ, List.getElem_cons_zero, List.setIfInBounds_toArray, List.set_cons_zero, List.set_cons_succ]
    refine wpAnyH_take (i := 3) (v := undef) rfl (by kernel_rfl) (by kernel_rfl) (by kernel_rfl) (fun _ _ _ h => h) (Or.inr ⟨by rfl, rfl⟩) (by assumption) ?_
    try simp only [Act.put, List.getElem_toArray, List.getElem_cons_succ, List.getElem_cons_zero, List.setIfInBounds_toArray, List.set_cons_zero, List.set_cons_succ]
    refine wpAnyH_take (i := 4) (v := undef) rfl (by kernel_rfl) (by kernel_rfl) (by kernel_rfl) (fun _ _ _ h => h) (Or.inr ⟨by rfl, rfl⟩) (by assumption) ?_
    try simp only [Act.put, List.getElem_toArray, List.getElem_cons_succ, List.getElem_cons_zero, List.setIfInBounds_toArray, List.set_cons_zero, List.set_cons_succ]
    refine wpAnyH_take (i := 5) (v := ?_) rfl (by kernel_rfl) (by kernel_rfl) (by kernel_rfl) (fun _ _ _ h => h) (Or.inl ⟨by rfl, ?_⟩) (by assumption) ?_
    rotate_left
    · (intro w' hS; (try dsimp only at hS); go_simp; try with_reducible rfl)
    try simp only [Act.put, List.getElem_toArray, List.getElem_cons_succ, List.getElem_cons_zero, List.setIfInBounds_toArray, List.set_cons_zero, List.set_cons_succ]
    refine wpAnyH_take (i := 6) (v := ?_) rfl (by kernel_rfl) (by kernel_rfl) (by kernel_rfl) (fun _ _ _ h => h) (Or.inl ⟨by rfl, ?_⟩) (by assumption) ?_
    rotate_left
    · (intro w' hS; (try dsimp only at hS); go_simp; try with_reducible rfl)
    try simp only [Act.put, List.getElem_toArray, List.getElem_cons_succ, List.getElem_cons_zero, List.setIfInBounds_toArray, List.set_cons_zero, List.set_cons_succ]
    refine wpAnyH_take (i := 7) (v := undef) rfl (by kernel_rfl) (by kernel_rfl) (by kernel_rfl) (fun _ _ _ h => h) (Or.inr ⟨by rfl, rfl⟩) (by assumption) ?_
    try simp only [Act.put, List.getElem_toArray, List.getElem_cons_succ, List.getElem_cons_zero, List.setIfInBounds_toArray, List.set_cons_zero, List.set_cons_succ]
    refine wpAnyH_take (i := 8) (v := undef) rfl (by kernel_rfl) (by kernel_rfl) (by kernel_rfl) (fun _ _ _ h => h) (Or.inr ⟨by rfl, rfl⟩) (by assumption) ?_
    try simp only [Act.put, List.getElem_toArray, List.getElem_cons_succ, List.getElem_cons_zero, List.setIfInBounds_toArray, List.set_cons_zero, List.set_cons_succ]
    refine wpAnyH_take (i := 9) (v := undef) rfl (by kernel_rfl) (by kernel_rfl) (by kernel_rfl) (fun _ _ _ h => h) (Or.inr ⟨by rfl, rfl⟩) (by assumption) ?_
    try simp only [Act.put, List.getElem_toArray, List.getElem_cons_succ, List.getElem_cons_zero, List.setIfInBounds_toArray, List.set_cons_zero, List.set_cons_succ]
    refine wpAnyH_take (i := 10) (v := undef) rfl (by kernel_rfl) (by kernel_rfl) (by kernel_rfl) (fun _ _ _ h => h) (Or.inr ⟨by rfl, rfl⟩) (by assumption) ?_
    try simp only [Act.put, List.getElem_toArray, List.getElem_cons_succ, List.getElem_cons_zero, List.setIfInBounds_toArray, List.set_cons_zero, List.set_cons_succ]
    refine wpAnyH_take (i := 11) (v := undef) rfl (by kernel_rfl) (by kernel_rfl) (by kernel_rfl) (fun _ _ _ h => h) (Or.inr ⟨by rfl, rfl⟩) (by assumption) ?_
    try simp only [Act.put, List.getElem_toArray, List.getElem_cons_succ, List.getElem_cons_zero, List.setIfInBounds_toArray, List.set_cons_zero, List.set_cons_succ]
    refine wpAnyH_take (i := 12) (v := undef) rfl (by kernel_rfl) (by kernel_rfl) (by kernel_rfl) (fun _ _ _ h => h) (Or.inr ⟨by rfl, rfl⟩) (by assumption) ?_
    try simp only [Act.put, List.getElem_toArray, List.getElem_cons_succ, List.getElem_cons_zero, List.setIfInBounds_toArray, List.set_cons_zero, List.set_cons_succ]
    refine wpAnyH_take (i := 13) (v := undef) rfl (by kernel_rfl) (by kernel_rfl) (by kernel_rfl) (fun _ _ _ h => h) (Or.inr ⟨by rfl, rfl⟩) (by assumption) ?_
    try simp only [Act.put, List.getElem_toArray, List.getElem_cons_succ, List.getElem_cons_zero, List.setIfInBounds_toArray, List.set_cons_zero, List.set_cons_succ]
    refine wpAnyH_take (i := 14) (v := undef) rfl (by kernel_rfl) (by kernel_rfl) (by kernel_rfl) (fun _ _ _ h => h) (Or.inr ⟨by rfl, rfl⟩) (by assumption) ?_
    try simp only [Act.put, List.getElem_toArray, List.getElem_cons_succ, List.getElem_cons_zero, List.setIfInBounds_toArray, List.set_cons_zero, List.set_cons_succ]
    refine wpAnyH_take (i := 15) (v := ?_) rfl (by kernel_rfl) (by kernel_rfl) (by kernel_rfl) (fun _ _ _ h => h) (Or.inl ⟨by rfl, ?_⟩) (by assumption) ?_
    rotate_left
    · (intro w' hS; (try dsimp only at hS); go_simp; try with_reducible rfl)
    try simp only [Act.put, List.getElem_toArray, List.getElem_cons_succ, List.getElem_cons_zero, List.setIfInBounds_toArray, List.set_cons_zero, List.set_cons_succ]
    refine wpAnyH_take (i := 16) (v := ?_) rfl (by kernel_rfl) (by kernel_rfl) (by kernel_rfl) (fun _ _ _ h => h) (Or.inl ⟨by rfl, ?_⟩) (by assumption) ?_
    rotate_left
    · (intro w' hS; (try dsimp only at hS); go_simp; try with_reducible rfl)
    try simp only [Act.put, List.getElem_toArray, List.getElem_cons_succ, List.getElem_cons_zero, List.setIfInBounds_toArray, List.set_cons_zero, List.set_cons_succ]
    refine wpAnyH_done (by kernel_rfl) ?_ _
    refine NoPanic.normal ?_
    have T9 : RC w (.slice A n cap) x y wx := by assumption
    have hb := T9.1
    clear T9
    go_wp2
    go_ret
    exact mkBol HE.out.symm hb
end Go.Proofs.YtmaghekcpopepaaDoor.Reg
