/- What the laws do to see that an answer owns its memory: texts of numbers are written into it and read again. -/
import Derived.Test.YtgngeebafpabdaaRows
import Derived.Test.YtgngeebafpabdaaBase
import Derived.WalkKit
import Derived.WalkSpells
import Derived.WalkLawsBesides
import Derived.Lib.Hide
import Derived.Lib.ItoaNum
import Derived.Deep.QuietTactic
import Derived.BigQuiet
import Derived.Deep.RegionHeld3
import Derived.Laws.OwnMore
import Derived.Deep.AppendLies
namespace Go.Proofs.Ytgngeebafpabdaa.Mark
set_option linter.unusedVariables false
open Go.RowKit Go.Proofs.Ytgngeebafpabdaa.Base

/-- the text of a number, the digits of a number, none for 0. -/
def Dg (q : Nat) : List UInt8 := if q = 0 then [] else Lib.decDigits q
def mt (k : Nat) : ByteArray := ⟨#[109]⟩ ++ ⟨(Lib.decDigits k).toArray⟩
theorem Dg_step (q : Nat) (h : q ≠ 0) : Dg q = Dg (q / 10) ++ [UInt8.ofNat (48 + q % 10)] := by
  unfold Dg
  rw [if_neg h]
  by_cases h1 : q < 10
  · rw [if_pos (by omega), Lib.decDigits, dif_pos h1, Nat.mod_eq_of_lt h1]; rfl
  · rw [if_neg (by omega), Lib.decDigits, dif_neg h1]
theorem more (q : Nat) (h : q ≠ 0) (t : ByteArray) (l : List UInt8) (hl : l = Dg q ++ t.data.toList) : l = Dg (q / 10) ++ (strOfNums [48 + (q : Int) % 10] ++ t).data.toList := by
  rw [hl, Dg_step q h, List.append_assoc]
  have e : (strOfNums [48 + (q : Int) % 10] ++ t).data.toList = (strOfNums [48 + (q : Int) % 10]).data.toList ++ t.data.toList := by
    rw [ByteArray.data_append, Array.toList_append]
  rw [e]
  congr 1
theorem nDigits_le (u : Nat) : Lib.nDigits u ≤ u / 10 + 1 := by
  induction u using Nat.strongRecOn with
  | _ u ih =>
    by_cases h1 : u < 10
    · rw [Lib.nDigits_small h1]; omega
    · rw [Lib.nDigits_big h1]
      have := ih (u / 10) (by omega)
      omega
theorem room (a : Nat) (q : Nat) (t : ByteArray) (h : Dg a = Dg q ++ t.data.toList) : t.size ≤ a / 10 + 1 := by
  have e := congrArg List.length h
  have h0 : (Dg a).length ≤ a / 10 + 1 := by
    unfold Dg
    split
    · simp
    · rw [Lib.decDigits_length]; exact nDigits_le a
  rw [List.length_append, show t.data.toList.length = t.size from Array.length_toList] at e
  omega
theorem bytes_ext {t : ByteArray} {l : List UInt8} (h : t.data.toList = l) : t = ⟨l.toArray⟩ := by
  cases t with
  | mk d => subst h; simp

set_option maxRecDepth 100000 in
set_option maxHeartbeats 400000 in
theorem markText (a : Nat) (ha : 0 < a) (hm : a ≤ 1000000000) (w : World) :
    Calls Try.prog 61 #[.int .i64 (a : Int)] w fun e w' => e = .returned (.string (mt a)) ∧ Below w.heap.size w w' := by
  have h0 : ¬ (a : Int) ≤ 0 := by omega
  have HD := Lib.hid (show Dg a = Lib.decDigits a by unfold Dg; rw [if_neg (by omega)])
  have HM := Lib.hid hm
  clear hm
  go_enter Try.func61, Try.ntmps61
  go_wp2_with fail
  clear h0
  go_loopw [0, 3] (fun m s wr => ∃ (q : Nat) (t : ByteArray), q ≤ a ∧ m = .int .i64 (q : Int) ∧ s = .string t ∧ Hid (Dg a = Dg q ++ t.data.toList) ∧ Below w.heap.size w wr) (fun m _ _ => (intOf m).toNat)
  case atStart => exact ⟨a, ⟨#[]⟩, Nat.le_refl _, rfl, rfl, Lib.hid (by simp), Below.refl _ _⟩
  case round =>
    obtain ⟨q, t, hq, rfl, rfl, HT, hb⟩ := hrel
    have hqm : q ≤ 1000000000 := by have := HM.out; omega
    have HZ := Lib.hid (room a q t HT.out)
    by_cases hz : q = 0
    · have hq0 : ¬ 0 < (q : Int) := by omega
      have hsz : (⟨#[109]⟩ : ByteArray).size + t.size ≤ 9223372036854775807 := by
        have h1 : (⟨#[109]⟩ : ByteArray).size = 1 := rfl
        have := HZ.out; have := HM.out; omega
      have hres := Lib.hid (show mt a = ⟨#[109]⟩ ++ t by unfold mt; rw [bytes_ext (t := t) (l := Lib.decDigits a) (by rw [← HD.out, HT.out, hz]; rfl)])
      clear hz
      go_wp2
      go_ret
      exact ⟨by rw [hres.out]; rfl, hb⟩
    · have hq1 : 0 < (q : Int) := by omega
      have HTT := Lib.hid (more q hz t _ HT.out)
      have hconv : ∀ (W : World) (x : Int), (convert 22 9 (.slice (some ⟨W.heap.size, 0, none⟩) 1 1)).run Try.prog (W.alloc (.cells #[.int .u8 x] 5)) = .ok (.string (strOfNums [x])) (W.alloc (.cells #[.int .u8 x] 5)) := fun W x =>
        run_convert_bytes_arg _ 22 5 Try.underlying22 Try.underlying5 W.heap.size 0 1 1 [x] rfl (fun i hi => by
          obtain rfl : i = 0 := by omega
          exact (cell_of_row _ _ 0 _ _ (0, 0) (heap_alloc_new W _)).trans rfl) 9 Try.underlying9
      have hsz : (strOfNums [48 + (q : Int) % 10]).size + t.size ≤ 9223372036854775807 := by
        have h1 : (strOfNums [48 + (q : Int) % 10]).size = 1 := by rw [strOfNums_size]; rfl
        have := HZ.out; have := HM.out; omega
      have hbs := hb.size
      go_wp2
      go_roundw
      case rel => exact ⟨q / 10, strOfNums [48 + (q : Int) % 10] ++ t, by omega, by go_num, rfl, HTT, hb.alloc hbs _⟩
      case measure => (simp [intOf] <;> omega)

theorem grownOf {w w' : World} (h : Below w.heap.size w w') (row : Option Nat) : w.grownBy w' row := ⟨h.os, h.tape, h.output, h.size, fun i hi _ => h.block i hi⟩

/-- a row of one-cell values can be read. -/
def RowAt (w : World) (A : Option Addr) (xs : List Value) : Prop :=
  ∃ b off : Nat, (0 < xs.length → A = some ⟨b, off, none⟩ ∧ b < w.heap.size) ∧ ∀ j u, xs[j]? = some u → w.cell? ⟨b, off + j, none⟩ = some u
theorem rowAt_own {w : World} {base e n cap : Nat} {A : Option Addr} {xs : List Value} (h : w.ownsRow base e 1 (.slice A n cap) n xs) : RowAt w A xs := by
  by_cases h0 : xs.length = 0
  · have : xs = [] := List.eq_nil_of_length_eq_zero h0
    subst this
    exact ⟨0, 0, fun h => by simp at h, fun j u hu => by simp at hu⟩
  · obtain ⟨g, c, hv, _, hlt⟩ := h.form (by have := h.1; omega)
    injection hv with hA
    subst hA
    refine ⟨g, 0, fun _ => ⟨rfl, hlt⟩, fun j u hu => ?_⟩
    have := h.cells (g := g) rfl j u hu
    rw [add_plain] at this
    simpa using this
theorem RowAt.below {w w' : World} {B : Nat} {A : Option Addr} {xs : List Value} (h : RowAt w A xs) (hb : Below B w w') (hB : ∀ b off : Nat, A = some ⟨b, off, none⟩ → b < B) : RowAt w' A xs := by
  obtain ⟨b, off, h1, h2⟩ := h
  refine ⟨b, off, fun hl => ⟨(h1 hl).1, Nat.lt_of_lt_of_le (h1 hl).2 hb.size⟩, fun j u hu => ?_⟩
  have hl : 0 < xs.length := by
    rcases Nat.eq_zero_or_pos xs.length with h0 | h0
    · rw [List.eq_nil_of_length_eq_zero h0] at hu; simp at hu
    · exact h0
  rw [hb.cell (p := ⟨b, off + j, none⟩) (hB b off (h1 hl).1)]
  exact h2 j u hu

set_option maxRecDepth 100000 in
set_option maxHeartbeats 400000 in
theorem eqStrings (w : World) (A A' : Option Addr) (cap cap' : Nat) (ss : List ByteArray) (hl : ss.length ≤ 1048576) (h1 : RowAt w A (ss.map Value.string)) (h2 : RowAt w A' (ss.map Value.string)) :
    Calls Try.prog 42 #[.slice A ss.length cap, .slice A' ss.length cap'] w fun e w' => e = .returned (.bool true) ∧ ∃ q, w' = w.drewN q := by
  obtain ⟨b, off, hA, hc⟩ := h1
  obtain ⟨b', off', hA', hc'⟩ := h2
  have H1 := Lib.hid hA
  have H2 := Lib.hid hA'
  have H3 := Lib.hid hc
  have H4 := Lib.hid hc'
  clear hA hA' hc hc'
  have hnn : (((ss.length : Nat) : Int) != ((ss.length : Nat) : Int)) = false := by simp
  go_enter Try.func42, Try.ntmps42
  go_wp2_with fail
  go_loopw [5] (fun i wr => ∃ k : Nat, k ≤ ss.length ∧ i = .int .i64 k ∧ ∃ q, wr = w.drewN q) (fun i _ => ss.length - (intOf i).toNat)
  case atStart => exact ⟨0, Nat.zero_le _, rfl, 0, rfl⟩
  case round =>
    obtain ⟨k, hk, rfl, q, rfl⟩ := hrel
    by_cases hlt : k < ss.length
    · obtain ⟨rfl, _⟩ := H1.out (by simpa using (by omega : 0 < ss.length))
      obtain ⟨rfl, _⟩ := H2.out (by simpa using (by omega : 0 < ss.length))
      have hx := H3.out k (.string ss[k]) (by simp [List.getElem?_eq_getElem hlt])
      have hy := H4.out k (.string ss[k]) (by simp [List.getElem?_eq_getElem hlt])
      generalize ss[k] = t at hx hy
      have hq := str_same t
      go_wp2_with fail
      go_quiet (fail)
      go_wp2
      go_roundw
      case rel => exact ⟨k + 1, by omega, by go_num, _, by first | rfl | rw [World.drewN_drewN]⟩
      case measure => (simp [intOf] <;> omega)
    · go_wp2
      go_ret
      exact ⟨rfl, q, rfl⟩

/-- the texts of the numbers from k on. -/
def marks (k n : Nat) : List Value := (List.range n).map fun j => .string (mt (k + j))
theorem marks_length (k n : Nat) : (marks k n).length = n := by unfold marks; simp
theorem marks_at (k n j : Nat) (h : j < n) : (marks k n)[j]? = some (.string (mt (k + j))) := by unfold marks; simp [List.getElem?_range h]
theorem marks_step (k i n : Nat) (xs : List Value) (hx : xs.length = n) (hi : i < n) : (marks k i ++ xs.drop i).set i (.string (mt (k + i))) = marks k (i + 1) ++ xs.drop (i + 1) := by
  rw [List.set_append_right _ _ (by rw [marks_length]; exact Nat.le_refl _), marks_length, Nat.sub_self, List.drop_eq_getElem_cons (by omega)]
  unfold marks
  rw [List.range_succ, List.map_append, List.append_assoc]
  rfl

set_option maxRecDepth 100000 in
set_option maxHeartbeats 400000 in
theorem markStrings (w : World) (base k n cap : Nat) (A : Option Addr) (xs : List Value) (hk : 0 < k) (hn : k + n ≤ 1000000) (hown : w.ownsRow base 9 1 (.slice A n cap) n xs) (hbase : base ≤ w.heap.size) :
    Calls Try.prog 43 #[.slice A n cap, .int .i64 (k : Int)] w fun e w' => e = .returned (.int .i64 ((k + n : Nat) : Int)) ∧ w'.ownsRow base 9 1 (.slice A n cap) n (marks k n) ∧ Below base w w' := by
  have hx : xs.length = n := by simpa using hown.1
  have HX := Lib.hid hx
  clear hx
  have HO := Lib.hid hown
  clear hown
  go_enter Try.func43, Try.ntmps43
  go_wp2_with fail
  go_loopw [1, 5] (fun m i wr => ∃ j : Nat, j ≤ n ∧ i = .int .i64 j ∧ m = .int .i64 ((k + j : Nat) : Int) ∧ wr.ownsRow base 9 1 (.slice A n cap) n (marks k j ++ xs.drop j) ∧ Below base w wr) (fun _ i _ => n - (intOf i).toNat)
  case atStart => exact ⟨0, Nat.zero_le _, rfl, rfl, by simpa [marks] using HO.out, Below.refl _ _⟩
  case round =>
    obtain ⟨j, hj, rfl, rfl, hown, hb⟩ := hrel
    have hbs := hb.size
    by_cases hlt : j < n
    · obtain ⟨g, c, hv, hg1, hg2⟩ := hown.form (by omega)
      injection hv with hA hn1 hc1
      subst hA
      subst hc1
      go_wp2_with fail
      refine (markText (k + j) (by omega) (by omega) _).mono ?_
      rintro e w2 ⟨rfl, hb2⟩
      have hown2 := hown.kept (grownOf hb2 none) (.inr (by simp [Value.ownBlock]))
      have hcell : ∃ u, w2.cell? ⟨g, j, none⟩ = some u := by
        rw [hown2.cellAt j (by omega)]
        have h1 : j < (marks k j ++ xs.drop j).length := by rw [List.length_append, marks_length, List.length_drop, HX.out]; omega
        exact ⟨_, List.getElem?_eq_getElem h1⟩
      obtain ⟨u, hu⟩ := hcell
      have hfr := hown2.frozenAt j
      obtain ⟨hst, _⟩ := hown2.stored j (.string (mt (k + j)))
      rw [marks_step k j n xs HX.out hlt] at hst
      have R := Lib.hid hst
      have hb3 : Below base w (w2.setCell ⟨g, j, none⟩ (.string (mt (k + j)))) := (hb.trans (hb2.mono (by omega))).setCell hg1 _
      clear hown hown2 hst hb2
      generalize mt (k + j) = t at R hb3 ⊢
      go_wp2
      go_roundw
      case rel => exact ⟨j + 1, by omega, by go_num, by go_num, R.out, hb3⟩
      case measure => (simp [intOf] <;> omega)
    · obtain rfl : j = n := by omega
      have R := Lib.hid (show wr.ownsRow base 9 1 (.slice A j cap) j (marks k j) by
        have e : marks k j ++ xs.drop j = marks k j := by rw [List.drop_eq_nil_of_le (by rw [HX.out]; omega), List.append_nil]
        rw [e] at hown; exact hown)
      clear hown
      go_wp2
      go_ret
      exact ⟨by go_num, R.out, hb⟩

set_option maxRecDepth 100000 in
set_option maxHeartbeats 400000 in
theorem heldStrings (w : World) (k n cap : Nat) (A : Option Addr) (hk : 0 < k) (hn : k + n ≤ 1000000) (hr : RowAt w A (marks k n)) :
    Calls Try.prog 44 #[.slice A n cap, .int .i64 (k : Int)] w fun e w' => e = .returned (.int .i64 ((k + n : Nat) : Int)) ∧ Below w.heap.size w w' := by
  obtain ⟨b, off, hA, hc⟩ := hr
  have HA := Lib.hid hA
  have HC := Lib.hid hc
  clear hA hc
  go_enter Try.func44, Try.ntmps44
  go_wp2_with fail
  go_loopw [1, 5] (fun m i wr => ∃ j : Nat, j ≤ n ∧ i = .int .i64 j ∧ m = .int .i64 ((k + j : Nat) : Int) ∧ Below w.heap.size w wr) (fun _ i _ => n - (intOf i).toNat)
  case atStart => exact ⟨0, Nat.zero_le _, rfl, rfl, Below.refl _ _⟩
  case round =>
    obtain ⟨j, hj, rfl, rfl, hb⟩ := hrel
    have hbs := hb.size
    by_cases hlt : j < n
    · obtain ⟨rfl, hbw⟩ := HA.out (by rw [marks_length]; omega)
      have hcell : wr.cell? ⟨b, off + j, none⟩ = some (.string (mt (k + j))) := (hb.cell (p := ⟨b, off + j, none⟩) hbw).trans (HC.out j _ (marks_at k n j hlt))
      have HM := Lib.hid (fun W => markText (k + j) (by omega) (by omega) W)
      have hj1 : (j : Int) < (n : Int) := by omega
      generalize mt (k + j) = t at hcell HM
      have hq := str_same t
      go_wp2_with fail
      go_region_held3 (fun w' => w'.cell? ⟨b, off + j, none⟩ = some (.string t)) (first | go_keep | (exact (hbx.cell (p := ⟨b, off + j, none⟩) (by simp; omega)).trans hcell)) (first | (go_at_call 61; refine (HM.out _).mono ?_; rintro e wx ⟨rfl, hbx⟩))
      have hb2 : Below w.heap.size w wx := hb.drew.trans (hbx.mono hbs)
      clear hcell HM hbx
      go_wp2
      go_roundw
      case rel => exact ⟨j + 1, by omega, by go_num, by go_num, hb2⟩
      case measure => (simp [intOf] <;> omega)
    · obtain rfl : j = n := by omega
      go_wp2
      go_ret
      exact ⟨by go_num, hb⟩

/-- with the numbers from 1 on. -/
theorem mark1 (w : World) (base n cap : Nat) (A : Option Addr) (xs : List Value) (m : Int) (hm : m = ((1 + n : Nat) : Int)) (hn : n ≤ 900000) (hown : w.ownsRow base 9 1 (.slice A n cap) n xs) (hbase : base ≤ w.heap.size) :
    Calls Try.prog 43 #[.slice A n cap, .int .i64 1] w fun e w' => e = .returned (.int .i64 m) ∧ w'.ownsRow base 9 1 (.slice A n cap) n (marks 1 n) ∧ Below base w w' := by
  subst hm
  exact markStrings w base 1 n cap A xs (by omega) (by omega) hown hbase
theorem held1 (w : World) (n cap : Nat) (A : Option Addr) (m : Int) (hm : m = ((1 + n : Nat) : Int)) (hn : n ≤ 900000) (hr : RowAt w A (marks 1 n)) :
    Calls Try.prog 44 #[.slice A n cap, .int .i64 1] w fun e w' => e = .returned (.int .i64 m) ∧ Below w.heap.size w w' := by
  subst hm
  exact heldStrings w 1 n cap A (by omega) (by omega) hr
theorem eqRows (w : World) (A A' : Option Addr) (n cap cap' : Nat) (ss : List ByteArray) (hn : ss.length = n) (hl : n ≤ 1048576) (h1 : RowAt w A (ss.map Value.string)) (h2 : RowAt w A' (ss.map Value.string)) :
    Calls Try.prog 42 #[.slice A n cap, .slice A' n cap'] w fun e w' => e = .returned (.bool true) ∧ ∃ q, w' = w.drewN q := by
  subst hn
  exact eqStrings w A A' cap cap' ss hl h1 h2
end Go.Proofs.Ytgngeebafpabdaa.Mark
