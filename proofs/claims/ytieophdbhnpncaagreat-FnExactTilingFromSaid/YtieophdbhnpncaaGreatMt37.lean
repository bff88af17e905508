/- FlmS in one text. -/
import Derived.Test.YtieophdbhnpncaaGreatMt01
import Derived.Test.YtieophdbhnpncaaGreatMt03
import Derived.Test.YtieophdbhnpncaaGreatMt05
import Derived.BigQuiet
import Derived.Deep.QuietTactic
import Derived.Deep.Cut

/- Flips, the model's: the two dominoes at a cell, where a domino stands in a list, which pair lies at a cell. -/
namespace Go.Proofs.YtieophdbhnpncaaGreat.Dom
open Go.RowKit Go.Proofs.YtieophdbhnpncaaGreat.Base Go.Proofs.YtieophdbhnpncaaGreat.Cell Go.Joins
end Go.Proofs.YtieophdbhnpncaaGreat.Dom
namespace Go.Proofs.YtieophdbhnpncaaGreat.Flp
set_option linter.unusedVariables false
set_option linter.unusedSimpArgs false
set_option maxRecDepth 100000
open Go.RowKit Go.Proofs.YtieophdbhnpncaaGreat.Base Go.Proofs.YtieophdbhnpncaaGreat.Pure Go.Proofs.YtieophdbhnpncaaGreat.Cell Go.Proofs.YtieophdbhnpncaaGreat.Dom Go.Proofs.YtieophdbhnpncaaGreat.Dms Go.Proofs.YtieophdbhnpncaaGreat.Til Go.Joins

/-- a domino as a value. -/
abbrev dmV (d : Dm) : Value := .agg #[.int .i64 d.1, .int .i64 d.2.1, .bool d.2.2]
section
variable {w W W' : World} {x y : Int} {d f : Dm}
end
/-- where a domino stands, or less than nothing. -/
def HasP (L : List Dm) (d : Dm) (w : World) (e : Ending) (w' : World) : Prop := ∃ r : Int, e = .returned (.int .i64 r) ∧ decide (0 ≤ r) = decide (d ∈ L) ∧ Below w.heap.size w w'
theorem mkHas {L : List Dm} {d : Dm} {w W : World} {r : Int} (h : decide (0 ≤ r) = decide (d ∈ L)) (hb : Below w.heap.size w W) : HasP L d w (.returned (.int .i64 r)) W := ⟨r, rfl, h, hb⟩
theorem take_no {L : List Dm} {k : Nat} {d : Dm} (hk : k < L.length) (h : d ∉ L.take k) (h2 : L[k] ≠ d) : d ∉ L.take (k + 1) := by
  rw [List.take_add_one, List.getElem?_eq_getElem hk, List.mem_append]
  rintro (q | q)
  · exact h q
  · simp at q; exact h2 q.symm
/-- a domino's box. -/
def DB (w : World) (d : Dm) (W : World) : Prop := Below w.heap.size w W ∧ At3 67 W w.heap.size d.1 d.2.1 d.2.2
theorem db_start (d : Dm) (w : World) : DB w d (w.alloc (.cells #[.int .i64 d.1, .int .i64 d.2.1, .bool d.2.2] 67)) := ⟨below_alloc1 w _, At3.new _ w _ _ _⟩
theorem DB.on {w W W' : World} {d : Dm} (h : DB w d W) (hb : Below W.heap.size W W') : DB w d W' := ⟨h.1.trans (hb.mono h.1.size), At3.on h.2 hb⟩
set_option maxHeartbeats 2000000 in
theorem sHas (w : World) (A : Option Addr) (n cap B : Nat) (L : List Dm) (hL : L.length = n) (hn : (n : Int) ≤ 9223372036854775807) (h : RowM w B A L) (hB : B ≤ w.heap.size) (d : Dm) :
    Calls Tryz.prog 70 #[.slice A n cap, dmV d] w (HasP L d w) := by
  obtain ⟨b, off, hA, hc⟩ := h.at
  have HA := Lib.hid hA
  have HC := Lib.hid hc
  have HL := Lib.hid hL
  have T0 := Lib.hid (db_start d w)
  obtain ⟨x, y, c⟩ := d
  clear hA hc hL h
  go_enter Tryz.func70, Tryz.ntmps70
  go_wp2_with fail
  go_loopw [5] (fun i wr => ∃ k : Nat, k ≤ n ∧ i = .int .i64 k ∧ DB w (x, y, c) wr ∧ Hid ((x, y, c) ∉ L.take k)) (fun i _ => n - (intOf i).toNat)
  case atStart => exact ⟨0, Nat.zero_le _, rfl, T0.out, Lib.hid (by simp)⟩
  case round =>
    clear T0
    obtain ⟨k, hk, rfl, hK, HN⟩ := hrel
    by_cases hlt : k < n
    · have hkL : k < L.length := by rw [HL.out]; exact hlt
      obtain ⟨rfl, hbB⟩ := HA.out (by omega)
      obtain ⟨e0, e1, e2⟩ := HC.out k hkL
      have d0 := (hK.1.cell (p := ⟨b, off + k * 3, none⟩) (by show b < _; omega)).trans e0
      have d1 := (hK.1.cell (p := ⟨b, off + k * 3 + 1, none⟩) (by show b < _; omega)).trans e1
      have d2 := (hK.1.cell (p := ⟨b, off + k * 3 + 2, none⟩) (by show b < _; omega)).trans e2
      have c0 := At3.c0 hK.2
      have c1 := At3.c1 hK.2
      have c2 := At3.c2 hK.2
      have HX := Lib.hid (fun hne => take_no hkL HN.out hne)
      have HIn := Lib.hid (fun (he : L[k] = (x, y, c)) => show (x, y, c) ∈ L from he ▸ List.getElem_mem hkL)
      generalize L[k] = p at d0 d1 d2 HX HIn
      obtain ⟨u, v, a⟩ := p
      simp only at d0 d1 d2 c0 c1 c2
      have HK := Lib.hid hK
      clear e0 e1 e2 HN hK
      by_cases q : u = x ∧ v = y ∧ a = c
      · obtain ⟨rfl, rfl, rfl⟩ := q
        have HI := Lib.hid (HIn.out rfl)
        clear HX HIn
        have huu : (u == u) = true := by simp
        have hvv : (v == v) = true := by simp
        have haa : (a == a) = true := by simp
        go_wp2_with fail
        go_quiet (fail)
        go_wp2
        go_ret
        exact mkHas (by rw [decide_eq_true HI.out]; exact decide_eq_true (by omega)) (drewBelow HK.out.1 _)
      · have HY := Lib.hid (HX.out (fun e => by injection e with e1 e2; injection e2 with e2 e3; exact q ⟨e1, e2, e3⟩))
        clear HX HIn
        by_cases q1 : u = x
        · subst q1
          have huu : (u == u) = true := by simp
          by_cases q2 : v = y
          · subst q2
            have hvv : (v == v) = true := by simp
            have haf : (a == c) = false := by rw [beq_eq_false_iff_ne]; exact fun e => q ⟨rfl, rfl, e⟩
            clear q
            go_wp2_with fail
            go_quiet (fail)
            go_wp2
            go_roundw
            case rel => exact ⟨k + 1, by omega, by go_num, HK.out.on (drewBelow (Below.refl _ _) _), HY⟩
            case measure => (simp [intOf] <;> omega)
          · have hvf : (v == y) = false := by rw [beq_eq_false_iff_ne]; exact q2
            clear q
            go_wp2_with fail
            go_quiet (fail)
            go_wp2
            go_roundw
            case rel => exact ⟨k + 1, by omega, by go_num, HK.out.on (drewBelow (Below.refl _ _) _), HY⟩
            case measure => (simp [intOf] <;> omega)
        · have huf : (u == x) = false := by rw [beq_eq_false_iff_ne]; exact q1
          clear q
          go_wp2_with fail
          go_quiet (fail)
          go_wp2
          go_roundw
          case rel => exact ⟨k + 1, by omega, by go_num, HK.out.on (drewBelow (Below.refl _ _) _), HY⟩
          case measure => (simp [intOf] <;> omega)
    · obtain rfl : k = n := by omega
      have HB := Lib.hid hK.1
      have HE := Lib.hid (show (x, y, c) ∉ L by have := HN.out; rw [List.take_of_length_le (by rw [HL.out]; exact Nat.le_refl _)] at this; exact this)
      clear HN hK
      go_wp2
      go_ret
      exact mkHas (by rw [decide_eq_false HE.out]; rfl) HB.out
end Go.Proofs.YtieophdbhnpncaaGreat.Flp
