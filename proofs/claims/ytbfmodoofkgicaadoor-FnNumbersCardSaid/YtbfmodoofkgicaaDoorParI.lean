/- ParseUint, the program's: the number from 0 to 1000000000 whose numeral the text is, and true; 0 and false if there is none. -/
import Derived.Test.YtbfmodoofkgicaaDoorParS
import Derived.Test.YtbfmodoofkgicaaDoorFmtI
namespace Go.Proofs.YtbfmodoofkgicaaDoor.Par
set_option linter.unusedVariables false
open Go.RowKit Go.Proofs.YtbfmodoofkgicaaDoor.Base Go.Proofs.YtbfmodoofkgicaaDoor.Hex Go.Proofs.YtbfmodoofkgicaaDoor.Fmt

/-- the library's two errors are as they were laid: not nil. -/
def Errs (w : World) : Prop := (∃ tp p, w.var? Tryd.prog "strconv.ErrSyntax" = some #[.iface tp p]) ∧ (∃ tp p, w.var? Tryd.prog "strconv.ErrRange" = some #[.iface tp p])

theorem gSyn : Tryd.prog.globalNamed "strconv.ErrSyntax" = some 3 := by kernel_rfl
theorem gRan : Tryd.prog.globalNamed "strconv.ErrRange" = some 4 := by kernel_rfl
theorem errs_stay {w w' : World} (h : Errs w) (hb : Below w.heap.size w w') : Errs w' := by
  obtain ⟨⟨t1, p1, h1⟩, ⟨t2, p2, h2⟩⟩ := h
  exact ⟨⟨t1, p1, Joins.var_stays gSyn h1 hb (Nat.le_refl _)⟩, ⟨t2, p2, Joins.var_stays gRan h2 hb (Nat.le_refl _)⟩⟩

/-- how the library's Atoi ends: with the number and no error, or with an error. -/
def AtoiPost (s : ByteArray) (w : World) (e : Ending) (w' : World) : Prop :=
  ((∃ v : Int, Lib.atoiAll s.data.toList = .ok v ∧ e = .returned (.tuple #[.int .i64 v, .nilIface])) ∨
   ((∀ v, Lib.atoiAll s.data.toList ≠ .ok v) ∧ ∃ (x : Int) (t : TypeId) (p : Value), e = .returned (.tuple #[.int .i64 x, .iface t p]))) ∧ Below w.heap.size w w'

theorem atoi (s : ByteArray) (w : World) (hs : s.size ≤ 1048576) (he : Errs w) : Calls Tryd.prog 33 #[.string s] w (AtoiPost s w) := by
  obtain ⟨⟨t1, p1, h1⟩, ⟨t2, p2, h2⟩⟩ := he
  cases h : Lib.atoiAll s.data.toList
  · rename_i v
    refine (Tryd.strconv_Atoi_ok s (by omega) v h w).mono fun e w' hh => ⟨.inl ⟨v, h, hh.1⟩, ?_⟩
    rcases hh.2 with hw | ⟨t, hw⟩
    · rw [hw]; exact Below.refl _ _
    · rw [hw]; exact Joins.below_bytesWorld _ _ _ _ (Nat.le_refl _)
  · have H : Calls Tryd.prog 33 #[.string s] w fun e w' => ∃ N, e = .returned (.tuple #[.int .i64 0, .iface 68 (.pointer (some ⟨N, 0, none⟩))]) ∧ w.heap.size ≤ N ∧ w'.heap[N]? = some (.cells #[.string ⟨#[65, 116, 111, 105]⟩, .string s, .iface t1 p1] 87 (0, 0)) ∧ Below w.heap.size w w' :=
      Go.Proofs.Any.strconv_Atoi_syntax_var Tryd.laysC172 s (by omega) h t1 p1 w h1
    exact H.mono fun e w' ⟨N, he, _, _, hb⟩ => ⟨.inr ⟨(fun v hv => by rw [h] at hv; cases hv), 0, _, _, he⟩, hb⟩
  · have H : Calls Tryd.prog 33 #[.string s] w fun e w' => ∃ N, e = .returned (.tuple #[.int .i64 (Lib.atoiSat s.data.toList), .iface 68 (.pointer (some ⟨N, 0, none⟩))]) ∧ w.heap.size ≤ N ∧ w'.heap[N]? = some (.cells #[.string ⟨#[65, 116, 111, 105]⟩, .string s, .iface t2 p2] 87 (0, 0)) ∧ Below w.heap.size w w' :=
      Go.Proofs.Any.strconv_Atoi_range_var Tryd.laysC172 s (by omega) h t2 p2 w h2
    exact H.mono fun e w' ⟨N, he, _, _, hb⟩ => ⟨.inr ⟨(fun v hv => by rw [h] at hv; cases hv), _, _, _, he⟩, hb⟩

theorem atoi_num (m : Nat) (s : ByteArray) (hm : m ≤ 1000000000) (h : s = numS (m : Int)) : Lib.atoiAll s.data.toList = .ok (m : Int) := by
  rw [numS_digits m s h]; exact atoi_dd m hm

set_option maxHeartbeats 400000 in
theorem impl_par (s : ByteArray) (w : World) (hs : s.size ≤ 1048576) (he : Errs w) (ht : Pow w) : Calls Tryd.prog 15 #[.string s] w (ParPost s w) := by
  have HA := Lib.hid (atoi s w hs he)
  have HF := Lib.hid (fun (n : Int) h0 h1 (w1 : World) (hb : Below w.heap.size w w1) => impl_fmt n h0 h1 w1 (Joins.tab_stays gPow ht hb (Nat.le_refl _)))
  clear he ht
  go_enter Tryd.func15, Tryd.ntmps15
  go_wp2_with fail
  refine HA.out.mono ?_
  rintro e w1 ⟨hr, hb1⟩
  rcases hr with ⟨v, hv, rfl⟩ | ⟨hno, x, t, p, rfl⟩
  · have HV := Lib.hid hv
    clear hv
    by_cases h0 : v < 0
    · have HN := Lib.hid (show ∀ m : Nat, m ≤ 1000000000 → s ≠ numS (m : Int) from fun m hm h => by
        have := (atoi_num m s hm h).symm.trans HV.out
        injection this with this
        omega)
      go_wp2
      go_ret2
      exact ⟨.inr ⟨HN.out, rfl⟩, hb1⟩
    · by_cases h1 : 1000000000 < v
      · have HN := Lib.hid (show ∀ m : Nat, m ≤ 1000000000 → s ≠ numS (m : Int) from fun m hm h => by
          have := (atoi_num m s hm h).symm.trans HV.out
          injection this with this
          omega)
        go_wp2
        go_ret2
        exact ⟨.inr ⟨HN.out, rfl⟩, hb1⟩
      · obtain ⟨m, rfl⟩ := Int.eq_ofNat_of_zero_le (by omega : 0 ≤ v)
        go_wp2_with fail
        refine (HF.out (m : Int) (by omega) (by omega) w1 hb1).mono ?_
        rintro e w2 ⟨rfl, hb2⟩
        have hb := hb1.trans (hb2.mono hb1.size)
        by_cases he : s = numS (m : Int)
        · have hq := str_eq he.symm
          have HE := Lib.hid he
          clear he
          generalize numS (m : Int) = r at hq ⊢
          go_wp2
          go_ret2
          exact ⟨.inl ⟨m, by omega, HE.out, rfl⟩, hb⟩
        · have HN := Lib.hid (show ∀ k : Nat, k ≤ 1000000000 → s ≠ numS (k : Int) from fun k hk h => by
            have := (atoi_num k s hk h).symm.trans HV.out
            injection this with this
            rw [show (k : Int) = (m : Int) from this] at h
            exact he h)
          have hq := str_ne (fun h => he h.symm)
          clear he
          generalize numS (m : Int) = r at hq ⊢
          go_wp2
          go_ret2
          exact ⟨.inr ⟨HN.out, rfl⟩, hb⟩
  · have HN := Lib.hid (show ∀ m : Nat, m ≤ 1000000000 → s ≠ numS (m : Int) from fun m hm h => hno _ (atoi_num m s hm h))
    clear hno
    go_wp2
    go_ret2
    exact ⟨.inr ⟨HN.out, rfl⟩, hb1⟩
end Go.Proofs.YtbfmodoofkgicaaDoor.Par
