/- TfI in one text. -/
import Derived.Test.YtieophdbhnpncaaGreatMh36
import Derived.Test.YtieophdbhnpncaaGreatMh35

namespace Go.Proofs.YtieophdbhnpncaaGreat.Cor
set_option linter.unusedVariables false
set_option linter.unusedSimpArgs false
set_option maxRecDepth 100000
open Go.RowKit Go.Proofs.YtieophdbhnpncaaGreat.Cell Go.Proofs.YtieophdbhnpncaaGreat.Dms Go.Proofs.YtieophdbhnpncaaGreat.Til Go.Proofs.YtieophdbhnpncaaGreat.Hgt Go.Joins
open Go.Proofs.YtieophdbhnpncaaGreat.Reg (ints RowB rowB_own own_below own_base)

set_option maxHeartbeats 1000000 in
theorem iEqualI (w : World) (A A' : Option Addr) (n m cap cap' : Nat) (B B' : Nat) (xs ys : List Int) (hx : xs.length = n) (hy : ys.length = m) (hl : (n : Int) ≤ 9223372036854775807) (h1 : RowB w B A xs) (h2 : RowB w B' A' ys) :
  Calls Tryz.prog 36 #[.slice A n cap, .slice A' m cap'] w fun e w' => e = .returned (.bool (decide (xs = ys))) ∧ ∃ q, w' = w.drewN q := by
 obtain ⟨b, off, hA, hc⟩ := h1
 obtain ⟨b', off', hA', hc'⟩ := h2
 by_cases hnm : n = m
 rotate_left
 ·have hne : decide (xs = ys) = false := decide_eq_false (fun e => hnm (by rw [← hx, ← hy, e]))
  rw [hne]
  have hnn : (((n : Nat) : Int) != ((m : Nat) : Int)) = true := by simp; omega
  clear hA hA' hc hc' hx hy hne
  go_enter Tryz.func36, Tryz.ntmps36
  go_wp2
  go_ret
  exact ⟨rfl, 0, rfl⟩
 subst hnm
 have H1 := Lib.hid hA
 have H2 := Lib.hid hA'
 have H3 := Lib.hid hc
 have H4 := Lib.hid hc'
 have HX := Lib.hid hx
 have HY := Lib.hid hy
 have HT : Hid (xs = ys → decide (xs = ys) = true) := Lib.hid (fun h => decide_eq_true h)
 have HF : Hid (¬ xs = ys → decide (xs = ys) = false) := Lib.hid (fun h => decide_eq_false h)
 generalize decide (xs = ys) = r at HT HF ⊢
 clear hA hA' hc hc' hx hy
 have hnn : (((n : Nat) : Int) != ((n : Nat) : Int)) = false := by simp
 go_enter Tryz.func36, Tryz.ntmps36
 go_wp2_with fail
 go_loopw [5, 13] (fun _ i wr => ∃ k : Nat, k ≤ n ∧ i = .int .i64 k ∧ Hid (xs.take k = ys.take k) ∧ ∃ q, wr = w.drewN q) (fun _ i _ => n - (intOf i).toNat)
 case atStart => exact ⟨0, Nat.zero_le _, rfl, Lib.hid rfl, 0, rfl⟩
 case round =>
  obtain ⟨k, hk, rfl, hs, q, rfl⟩ := hrel
  by_cases hlt : k < n
  ·have hkx : k < xs.length := by have := HX.out; omega
   have hky : k < ys.length := by have := HY.out; omega
   obtain ⟨rfl, _⟩ := H1.out (by omega)
   obtain ⟨rfl, _⟩ := H2.out (by omega)
   have hx := H3.out k xs[k] (List.getElem?_eq_getElem hkx)
   have hy := H4.out k ys[k] (List.getElem?_eq_getElem hky)
   have HS := Lib.hid (fun e => same_take hs.out hkx hky e)
   have HN := Lib.hid (show xs[k] ≠ ys[k] → ¬ xs = ys from fun h e => h (by subst e; rfl))
   clear hs
   generalize xs[k] = t at hx HS HN
   generalize ys[k] = u at hy HS HN
   by_cases hq : t = u
   ·subst hq
    have hq : (t != t) = false := by simp
    go_wp2_with fail
    go_quiet (fail)
    go_wp2
    go_roundw
    case rel => exact ⟨k + 1, by omega, by go_num, Lib.hid (HS.out trivial), _, by first | rfl | rw [World.drewN_drewN]⟩
    case measure => (simp [intOf] <;> omega)
   ·have hr := HF.out (HN.out hq)
    subst hr
    have hq' : (t != u) = true := by simpa using hq
    go_wp2_with fail
    go_quiet (fail)
    go_wp2
    go_ret
    exact ⟨rfl, _, by first | rfl | rw [World.drewN_drewN]⟩
  ·have hr := HT.out (by
    have e := hs.out
    rw [List.take_of_length_le (by have := HX.out; omega), List.take_of_length_le (by have := HY.out; omega)] at e
    exact e)
   subst hr
   clear hs
   go_wp2
   go_ret
   exact ⟨rfl, q, rfl⟩
def TfP (xs hs : List Int) (w : World) (e : Ending) (w' : World) : Prop :=
 ∃ (M : List Dm) (ok : Bool) (A : Option Addr) (n c : Nat), tfR xs hs M ok ∧ M.length = n ∧ e = .returned (.tuple #[.slice A n c, .bool ok]) ∧ w'.ownsRow w.heap.size 67 3 (.slice A n c) n (rowM M) ∧ n ≤ c ∧ Below w.heap.size w w'
theorem sort_fits (C : List Dm) : Fits (sortM C) := ok_fits (fun e he => (((sortM_good C).2 e).1 he).2)
set_option maxHeartbeats 2000000 in
theorem iTilingFrom (w : World) (A : Option Addr) (n cap B : Nat) (xs : List Int) (hx : xs.length = n) (hn : (n : Int) ≤ 9223372036854775807) (h : RowB w B A xs) (hB : B ≤ w.heap.size)
  (A' : Option Addr) (n' cap' B' : Nat) (hs : List Int) (hh : hs.length = n') (hn' : (n' : Int) ≤ 9223372036854775807) (h' : RowB w B' A' hs) (hB' : B' ≤ w.heap.size)
  (iSort : ∀ (W : World) (A1 : Option Addr) (n c : Nat) (L : List Dm), L.length = n → (n : Int) ≤ 1048576 → Fits L → RowM W W.heap.size A1 L → Calls Tryz.prog 68 #[.slice A1 n c] W (DmPost (sortM L) (sortM L).length W)) :
  Calls Tryz.prog 8 #[.agg #[.slice A n cap], .slice A' n' cap'] w (TfP xs hs w) := by
 have HS := Lib.hid (r1_start w (.slice A n cap))
 have HNo := Lib.hid (fun W (hb : Below w.heap.size w W) (ht : tfR xs hs [] false) => show TfP xs hs w (.returned (.tuple #[.slice none 0 0, .bool false])) W from ⟨[], false, none, 0, 0, ht, rfl, rfl, ⟨rfl, .inl ⟨rfl, rfl⟩⟩, Nat.le_refl _, hb⟩)
 by_cases h81 : n' = 81
 rotate_left
 ·have hne : ((n' : Int) != 81) = true := by simp; omega
  have HT := Lib.hid (tf_short (xs := xs) (hs := hs) (by rw [hh]; exact h81))
  clear hx hn h hB hh hn' h' hB' iSort h81
  go_enter Tryz.func8, Tryz.ntmps8
  go_wp2
  exact bodyPost_ret (v := .tuple #[.slice none 0 0, .bool false]) (by simp [results, Tryz.results8, go_sem]) rfl (HNo.out _ HS.out.1 HT.out)
 ·subst h81
  have HDv := Lib.hid (fun W (hb : Below w.heap.size w W) => iDivided W A' cap' B' hs hh (h'.below hb hB') (by have := hb.size; omega) A n cap B xs hx hn (h.below hb hB) (by have := hb.size; omega) iSort)
  have HHg := Lib.hid (fun W (hb : Below w.heap.size w W) A1 m c1 (L : List Dm) (hL : L.length = m) (hm : m ≤ 1000000) hf (hr : RowM W W.heap.size A1 L) hcp => iHeightsOf W A n cap B xs hx hn (h.below hb hB) (by have := hb.size; omega) A1 m c1 W.heap.size L hL (by omega) hf hr (Nat.le_refl _) hcp)
  have HEq := Lib.hid (fun W (hb : Below w.heap.size w W) A1 m c1 (ys : List Int) (hy : ys.length = m) (hm : m ≤ 1000000) (hr : RowB W W.heap.size A1 ys) => iEqualI W A1 A' m 81 c1 cap' W.heap.size B' ys hs hy hh (by omega) hr (h'.below hb hB'))
  have HYs := Lib.hid (fun M h (hr : hgtR xs M h) (e : h = hs) => tf_yes (xs := xs) (hs := hs) (M := M) hh hr e)
  clear hx hn h hB hh hn' h' hB' iSort
  go_enter Tryz.func8, Tryz.ntmps8
  go_wp2_with fail
  have c0 := HS.out.2.c0
  refine (HDv.out _ HS.out.1).mono ?_
  rintro e w2 ⟨C, hC, hCl, A2, c2, rfl, hle, hown, hb2⟩
  have hbz := HS.out.1.size
  have S2 := HS.out.on hb2
  have HC := Lib.hid hC
  have HO2 := Lib.hid hown
  have HB2 := Lib.hid hb2
  have HF2 := Lib.hid (sort_fits C)
  have HLe := Lib.hid hle
  clear hC hown hle HS HDv c0
  obtain ⟨M, hM⟩ : ∃ M, sortM C = M := ⟨_, rfl⟩
  have HM := Lib.hid hM
  rw [hM] at HO2 HF2 HLe ⊢
  have hml : M.length ≤ 1000000 := by rw [← hM]; have := sortM_length C; omega
  obtain ⟨m, hm⟩ : ∃ m, M.length = m := ⟨_, rfl⟩
  have HMl := Lib.hid hm
  rw [hm] at HO2 HLe hml ⊢
  clear hM hm hb2 hCl
  have c0 := S2.2.c0
  go_wp2_with fail
  refine (HHg.out _ S2.1 _ _ _ M HMl.out hml HF2.out (rowM_own HO2.out) HLe.out).mono ?_
  rintro e w3 ⟨h3, A3, n3, c3, hr3, hl3, rfl, hown3, hb3⟩
  have S3 := S2.on hb3
  have HR3 := Lib.hid hr3
  have h3l : n3 ≤ 1000000 := by have := hgtR_len hr3; omega
  have HE3 := Lib.hid (HEq.out w3 S3.1 A3 n3 c3 h3 hl3 h3l (rowB_own hown3))
  have HO3 := Lib.hid (own_base (own_below HO2.out hb3 (Nat.le_refl _)) hbz)
  clear hr3 hl3 hown3 hb3 S2 c0 HO2
  have HRM := Lib.hid (show ∀ M', M' = M → True from fun _ _ => trivial)
  clear HRM
  go_wp2_with fail
  refine HE3.out.mono ?_
  rintro e w4 ⟨rfl, q, rfl⟩
  have HB4 := Lib.hid (drewBelow S3.1 q)
  have HO4 := Lib.hid (show (w3.drewN q).ownsRow w.heap.size 67 3 (.slice A2 m c2) m (rowM M) from own_below HO3.out (drewBelow (Below.refl _ _) q) (Nat.le_refl _))
  clear S3 HE3 HEq HHg hbz
  by_cases hq : h3 = hs
  ·have HTy := Lib.hid (HYs.out M h3 HR3.out hq)
   rw [decide_eq_true hq]
   clear hq HYs
   go_wp2
   exact bodyPost_ret (v := .tuple #[.slice A2 m c2, .bool true]) (by simp [results, Tryz.results8, go_sem]) rfl ⟨M, true, A2, m, c2, HTy.out, HMl.out, rfl, HO4.out, HLe.out, HB4.out⟩
  ·have HTn := Lib.hid (tf_no HC.out (by rw [HM.out]; exact HR3.out) hq)
   rw [decide_eq_false hq]
   clear hq HYs
   go_wp2
   exact bodyPost_ret (v := .tuple #[.slice none 0 0, .bool false]) (by simp [results, Tryz.results8, go_sem]) rfl (HNo.out _ HB4.out HTn.out)
end Go.Proofs.YtieophdbhnpncaaGreat.Cor
