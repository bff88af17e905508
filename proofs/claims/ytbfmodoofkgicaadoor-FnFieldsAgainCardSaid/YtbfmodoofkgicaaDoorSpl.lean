/- The law FnExactSplitFields returns true: the program's SplitFields and the model's return the same, and the program's answers own their memory. -/
import Derived.Test.YtbfmodoofkgicaaDoorSplI
import Derived.Test.YtbfmodoofkgicaaDoorMark
namespace Go.Proofs.YtbfmodoofkgicaaDoor.Spl
set_option linter.unusedVariables false
open Go.RowKit Go.Proofs.YtbfmodoofkgicaaDoor.Base Go.Proofs.YtbfmodoofkgicaaDoor.Mark

/-- the two answers are one list. -/
def SameAns (s : ByteArray) (F : List (List UInt8)) (ok : Bool) : Prop := (Good s ∧ F = Lib.fields s.data.toList ∧ ok = true) ∨ (¬ Good s ∧ F = [] ∧ ok = false)
theorem same_ans {s : ByteArray} {F G : List (List UInt8)} {a b : Bool} (h : SameAns s F a) (k : SameAns s G b) : F = G ∧ a = b := by
  rcases h with ⟨h1, rfl, rfl⟩ | ⟨h1, rfl, rfl⟩
  · rcases k with ⟨_, rfl, rfl⟩ | ⟨k1, _⟩
    · exact ⟨rfl, rfl⟩
    · exact absurd h1 k1
  · rcases k with ⟨k1, _⟩ | ⟨_, rfl, rfl⟩
    · exact absurd k1 h1
    · exact ⟨rfl, rfl⟩
/-- an answer, in one form. -/
def AnsPost (s : ByteArray) (w : World) (e : Ending) (w' : World) : Prop :=
  ∃ (F : List (List UInt8)) (ok : Bool) (A : Option Addr) (cap : Nat), SameAns s F ok ∧ F.length ≤ 24 ∧ e = .returned (.tuple #[.slice A F.length cap, .bool ok]) ∧
    w'.ownsRow w.heap.size 9 1 (.slice A F.length cap) F.length (rowOf F) ∧ Below w.heap.size w w'
theorem ans_of {s : ByteArray} {w w' : World} {e : Ending} (h : SplPost s w e w') : AnsPost s w e w' := by
  obtain ⟨⟨v, h⟩, hb⟩ := h
  rcases h with ⟨hg, rfl, ho⟩ | ⟨hg, rfl, ho⟩
  · obtain ⟨A, cap, rfl⟩ := own_shape ho
    exact ⟨_, _, A, cap, .inl ⟨hg, rfl, rfl⟩, hg.2.2, rfl, ho, hb⟩
  · obtain ⟨A, cap, rfl⟩ := own_shape ho
    exact ⟨[], _, A, cap, .inr ⟨hg, rfl, rfl⟩, by simp, rfl, ho, hb⟩
theorem rowOf_strings (F : List (List UInt8)) : rowOf F = (F.map fun l => (⟨l.toArray⟩ : ByteArray)).map Value.string := by unfold rowOf strV; rw [List.map_map]; rfl
theorem sp_stay {w w' : World} (h : Sp w) (hb : Below w.heap.size w w') : Sp w' := Joins.tab_stays gSp h hb (Nat.le_refl _)
theorem own_below {w w' : World} {base e n : Nat} {v : Value} {xs : List Value} (h : w.ownsRow base e 1 v n xs) (hb : Below w.heap.size w w') : w'.ownsRow base e 1 v n xs :=
  h.kept (grownOf hb none) (by cases v <;> simp [Value.ownBlock] <;> (try (split <;> simp)))

set_option maxRecDepth 100000 in
set_option maxHeartbeats 1000000 in
theorem split_law (s : ByteArray) (hs : s.size ≤ maxLen) (w : World) (ht : Sp w) :
    Calls Tryd.prog 8 #[.string s] w fun e w' => e = .returned (.bool true) ∧ Below w.heap.size w w' := by
  unfold maxLen at hs
  by_cases h0 : (1048576 : Int) < (s.size : Int)
  · clear ht
    go_enter Tryd.func8, Tryd.ntmps8
    go_wp2
    go_ret
    exact ⟨rfl, Below.refl _ _⟩
  · have HS := Lib.hid (fun W => spec_spl s W (by omega))
    have HI := Lib.hid (fun W (h : Sp W) => impl_spl s W (by omega) h)
    have HT := Lib.hid ht
    clear ht
    go_enter Tryd.func8, Tryd.ntmps8
    go_wp2_with fail
    refine (HS.out w).mono ?_
    rintro e w1 hr
    obtain ⟨F, ok, A, cap, hsame, hF, rfl, hown, hb1⟩ := ans_of hr
    clear hr
    have HSame := Lib.hid hsame
    have HO1 := Lib.hid hown
    have HT1 := Lib.hid (sp_stay HT.out hb1)
    clear hsame hown
    go_wp2_with fail
    refine (HI.out w1 HT1.out).mono ?_
    rintro e w2 hr
    obtain ⟨G, ok', A2, cap2, hsame, _, rfl, hown, hb2⟩ := ans_of hr
    clear hr
    obtain ⟨rfl, rfl⟩ := same_ans HSame.out hsame
    have HO2 := Lib.hid hown
    have HO1b := Lib.hid (own_below HO1.out hb2)
    have hbb2 := hb1.trans (hb2.mono hb1.size)
    have HT2 := Lib.hid (sp_stay HT.out hbb2)
    clear hsame hown
    obtain ⟨n, hn⟩ : ∃ n, n = F.length := ⟨_, rfl⟩
    have hn24 : n ≤ 24 := by omega
    have HN := Lib.hid hn
    obtain ⟨m, hm⟩ : ∃ m : Int, m = ((1 + n : Nat) : Int) := ⟨_, rfl⟩
    have hm0 : ¬ m < 0 := by omega
    have HM := Lib.hid hm
    have hmm : (m != m) = false := by simp
    have hok : (ok != ok) = false := by simp
    rw [← hn]
    have HO2' := Lib.hid (show w2.ownsRow w1.heap.size 9 1 (.slice A2 n cap2) n (rowOf F) by rw [HN.out]; exact HO2.out)
    have HO1' := Lib.hid (show w1.ownsRow w.heap.size 9 1 (.slice A n cap) n (rowOf F) by rw [HN.out]; exact HO1.out)
    have HA := Lib.hid (show ∀ b off : Nat, A = some ⟨b, off, none⟩ → b < w1.heap.size from fun b off e => (HO1'.out.lt b (by rw [e]; rfl)).2)
    have HR1 := Lib.hid (show RowAt w1 A (rowOf F) from rowAt_own HO1'.out)
    have HE := Lib.hid (fun (W : World) (B B' : Option Addr) (c c' : Nat) (h1 : RowAt W B (rowOf F)) (h2 : RowAt W B' (rowOf F)) => eqRows W B B' n c c' (F.map fun l => (⟨l.toArray⟩ : ByteArray)) (by rw [List.length_map]; exact HN.out.symm) (by omega) (by rw [← rowOf_strings]; exact h1) (by rw [← rowOf_strings]; exact h2))
    clear hn hm HO1 HO2 HO1b
    go_wp2_with fail
    refine (HE.out w2 A2 A cap2 cap (rowAt_own HO2'.out) (HR1.out.below hb2 HA.out)).mono ?_
    rintro e w3 ⟨rfl, q, hq⟩
    have HQ := Lib.hid hq
    have HO3 := Lib.hid (show w3.ownsRow w1.heap.size 9 1 (.slice A2 n cap2) n (rowOf F) by rw [HQ.out]; exact HO2'.out)
    have hb3 : Below w1.heap.size w1 w3 := by rw [HQ.out]; exact ⟨hb2.os, hb2.tape, hb2.output, hb2.size, hb2.block⟩
    clear hq hb2
    go_wp2_with fail
    refine (mark1 w3 w1.heap.size n cap2 A2 (rowOf F) m HM.out (by omega) HO3.out hb3.size).mono ?_
    rintro e w4 ⟨rfl, hown4, hb4⟩
    have HO4 := Lib.hid hown4
    have hb4' : Below w1.heap.size w1 w4 := hb3.trans hb4
    clear hown4 hb4 hb3
    go_wp2_with fail
    refine (held1 w4 n cap2 A2 m HM.out (by omega) (rowAt_own HO4.out)).mono ?_
    rintro e w5 ⟨rfl, hb5⟩
    have HO5 := Lib.hid (own_below HO4.out hb5)
    have hb5' : Below w1.heap.size w1 w5 := hb4'.trans (hb5.mono hb4'.size)
    have HT5 := Lib.hid (sp_stay HT1.out hb5')
    clear hb5 hb4'
    go_wp2_with fail
    refine (HI.out w5 HT5.out).mono ?_
    rintro e w6 hr
    obtain ⟨G, ok', A3, cap3, hsame, _, rfl, hown, hb6⟩ := ans_of hr
    clear hr
    obtain ⟨rfl, rfl⟩ := same_ans HSame.out hsame
    have HO6 := Lib.hid (show w6.ownsRow w5.heap.size 9 1 (.slice A3 n cap3) n (rowOf F) by rw [HN.out]; exact hown)
    have HO5b := Lib.hid (own_below HO5.out hb6)
    have hb6' : Below w1.heap.size w1 w6 := hb5'.trans (hb6.mono hb5'.size)
    clear hsame hown hb6 hb5'
    rw [← HN.out]
    go_wp2_with fail
    refine (HE.out w6 A3 A cap3 cap (rowAt_own HO6.out) (HR1.out.below hb6' HA.out)).mono ?_
    rintro e w7 ⟨rfl, q2, hq2⟩
    have HQ2 := Lib.hid hq2
    have HR7 := Lib.hid (show RowAt w7 A2 (marks 1 n) by rw [HQ2.out]; exact rowAt_own HO5b.out)
    have hb7 : Below w1.heap.size w1 w7 := by rw [HQ2.out]; exact ⟨hb6'.os, hb6'.tape, hb6'.output, hb6'.size, hb6'.block⟩
    clear hq2 hb6'
    go_wp2_with fail
    refine (held1 w7 n cap2 A2 m HM.out (by omega) HR7.out).mono ?_
    rintro e w8 ⟨rfl, hb8⟩
    have hbend : Below w.heap.size w w8 := hb1.trans ((hb7.trans (hb8.mono hb7.size)).mono hb1.size)
    clear hb8 hb7
    go_wp2
    go_ret
    exact ⟨rfl, hbend⟩
end Go.Proofs.YtbfmodoofkgicaaDoor.Spl
