/- slices.Index and slices.Contains at dominoes: is a domino in a list. -/
import Derived.Test.YtkjoonmnedofiaaFlmS
namespace Go.Proofs.Ytkjoonmnedofiaa.Flp
set_option linter.unusedVariables false
set_option linter.unusedSimpArgs false
set_option maxRecDepth 100000
open Go.RowKit Go.Proofs.Ytkjoonmnedofiaa.Base Go.Proofs.Ytkjoonmnedofiaa.Pure Go.Proofs.Ytkjoonmnedofiaa.Cell Go.Proofs.Ytkjoonmnedofiaa.Dom Go.Proofs.Ytkjoonmnedofiaa.Dms Go.Proofs.Ytkjoonmnedofiaa.Til Go.Joins

set_option maxHeartbeats 2000000 in
theorem iIndex (w : World) (A : Option Addr) (n cap B : Nat) (L : List Dm) (hL : L.length = n) (hn : (n : Int) ≤ 9223372036854775807) (h : RowM w B A L) (hB : B ≤ w.heap.size) (d : Dm) :
    Calls Try.prog 68 #[.slice A n cap, dmV d] w (HasP L d w) := by
  obtain ⟨b, off, hA, hc⟩ := h.at
  have HA := Lib.hid hA
  have HC := Lib.hid hc
  have HL := Lib.hid hL
  have T0 := Lib.hid (db_start d w)
  obtain ⟨x, y, c⟩ := d
  clear hA hc hL h
  go_enter Try.func68, Try.ntmps68
  go_wp2_with fail
  go_loopw [5, 8] (fun _ i wr => ∃ k : Nat, k ≤ n ∧ i = .int .i64 k ∧ DB w (x, y, c) wr ∧ Hid ((x, y, c) ∉ L.take k)) (fun _ i _ => n - (intOf i).toNat)
  case atStart => exact ⟨0, Nat.zero_le _, rfl, T0.out, Lib.hid (by simp)⟩
  case round =>
    clear T0
    obtain ⟨k, hk, rfl, hK, HN⟩ := hrel
    by_cases hlt : k < n
    · have hkL : k < L.length := by rw [HL.out]; exact hlt
      obtain ⟨rfl, hbB⟩ := HA.out (by omega)
      obtain ⟨e0, e1, e2⟩ := HC.out k hkL
      have d0 := (hK.1.cell (p := ⟨b, off + k * 3, none⟩) (by show b < _; omega)).trans e0
      have d1 := (hK.1.cell (p := ⟨b, off + k * 3 + 1, none⟩) (by show b < _; omega)).trans e1
      have d2 := (hK.1.cell (p := ⟨b, off + k * 3 + 2, none⟩) (by show b < _; omega)).trans e2
      have c0 := At3.c0 hK.2
      have c1 := At3.c1 hK.2
      have c2 := At3.c2 hK.2
      have HX := Lib.hid (fun hne => take_no hkL HN.out hne)
      have HIn := Lib.hid (fun (he : L[k] = (x, y, c)) => show (x, y, c) ∈ L from he ▸ List.getElem_mem hkL)
      generalize L[k] = p at d0 d1 d2 HX HIn
      obtain ⟨u, v, a⟩ := p
      simp only at d0 d1 d2 c0 c1 c2
      have HK := Lib.hid hK
      clear e0 e1 e2 HN hK
      by_cases q : u = x ∧ v = y ∧ a = c
      · obtain ⟨rfl, rfl, rfl⟩ := q
        have HI := Lib.hid (HIn.out rfl)
        clear HX HIn
        have huu : (u == u) = true := by simp
        have hvv : (v == v) = true := by simp
        have haa : (a == a) = true := by simp
        go_wp2_with fail
        go_quiet (fail)
        go_wp2
        go_ret
        exact mkHas (by rw [decide_eq_true HI.out]; exact decide_eq_true (by omega)) (drewBelow HK.out.1 _)
      · have HY := Lib.hid (HX.out (fun e => by injection e with e1 e2; injection e2 with e2 e3; exact q ⟨e1, e2, e3⟩))
        clear HX HIn
        by_cases q1 : u = x
        · subst q1
          have huu : (u == u) = true := by simp
          by_cases q2 : v = y
          · subst q2
            have hvv : (v == v) = true := by simp
            have haf : (c == a) = false := by rw [beq_eq_false_iff_ne]; exact fun e => q ⟨rfl, rfl, e.symm⟩
            clear q
            go_wp2_with fail
            go_quiet (fail)
            go_wp2
            go_roundw
            case rel => exact ⟨k + 1, by omega, by go_num, HK.out.on (drewBelow (Below.refl _ _) _), HY⟩
            case measure => (simp [intOf] <;> omega)
          · have hvf : (y == v) = false := by rw [beq_eq_false_iff_ne]; exact fun e => q2 e.symm
            clear q
            go_wp2_with fail
            go_quiet (fail)
            go_wp2
            go_roundw
            case rel => exact ⟨k + 1, by omega, by go_num, HK.out.on (drewBelow (Below.refl _ _) _), HY⟩
            case measure => (simp [intOf] <;> omega)
        · have huf : (x == u) = false := by rw [beq_eq_false_iff_ne]; exact fun e => q1 e.symm
          clear q
          go_wp2_with fail
          go_quiet (fail)
          go_wp2
          go_roundw
          case rel => exact ⟨k + 1, by omega, by go_num, HK.out.on (drewBelow (Below.refl _ _) _), HY⟩
          case measure => (simp [intOf] <;> omega)
    · obtain rfl : k = n := by omega
      have HF := Lib.hid (show (x, y, c) ∉ L from fun q => HN.out (by rw [← HL.out, List.take_length]; exact q))
      have HK := Lib.hid hK.1
      clear hK HN
      go_wp2
      go_ret
      exact mkHas (by rw [decide_eq_false HF.out]; exact decide_eq_false (by omega)) HK.out
/-- slices.Contains. -/
theorem iContains (w : World) (A : Option Addr) (n cap B : Nat) (L : List Dm) (hL : L.length = n) (hn : (n : Int) ≤ 9223372036854775807) (h : RowM w B A L) (hB : B ≤ w.heap.size) (d : Dm) :
    Calls Try.prog 46 #[.slice A n cap, dmV d] w (Bol (decide (d ∈ L)) w) := by
  have T0 := Lib.hid (db_start d w)
  have HI := Lib.hid (fun W (hb : Below w.heap.size w W) => iIndex W A n cap B L hL hn (h.below hb hB) (by have := hb.size; omega) d)
  have HQ := Lib.hid (rfl : decide (d ∈ L) = decide (d ∈ L))
  clear hL hn h hB
  obtain ⟨x, y, c⟩ := d
  go_enter Try.func46, Try.ntmps46
  go_wp2_with fail
  refine (HI.out _ T0.out.1).mono ?_
  rintro e w1 ⟨r, rfl, hr, hb1⟩
  have HB := Lib.hid (T0.out.on hb1).1
  have HR := Lib.hid hr
  clear HI T0 hb1 hr
  go_wp2
  go_ret
  exact mkBol (by rw [← HR.out]) HB.out
end Go.Proofs.Ytkjoonmnedofiaa.Flp
