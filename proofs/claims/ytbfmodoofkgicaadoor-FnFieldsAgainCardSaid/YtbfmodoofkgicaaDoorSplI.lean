/- SplitFields, the program's: the fields of a line in new memory, and true; nil and false if the line is not valid. -/
import Derived.Test.YtbfmodoofkgicaaDoorSplS
import Derived.Test.YtbfmodoofkgicaaDoorShelf
import Derived.Lib.SmallJoins
import Derived.Laws.OwnMore
import Derived.Lib.Space
namespace Go.Proofs.YtbfmodoofkgicaaDoor.Spl
set_option linter.unusedVariables false
open Go.RowKit Go.Proofs.YtbfmodoofkgicaaDoor.Base

/-- the library's table of spaces is as it was laid. -/
def Sp (w : World) : Prop := Lib.TabIs Tryd.prog w "strings.asciiSpace" .u8 Lib.asciiSpaceTab
theorem gSp : Tryd.prog.globalNamed "strings.asciiSpace" = some 0 := by kernel_rfl

/-- how many bytes come before the first one that is not valid. -/
def CntPost (s : ByteArray) (w : World) (e : Ending) (w' : World) : Prop :=
  ∃ k : Nat, e = .returned (.int .i64 (k : Int)) ∧ w = w' ∧ (AllOk s.data.toList ∧ k = s.size ∨ ¬ AllOk s.data.toList ∧ k < s.size)

set_option maxRecDepth 100000 in
set_option maxHeartbeats 400000 in
theorem count (s : ByteArray) (w : World) (hs : s.size ≤ 1048576) : Calls Tryd.prog 35 #[.string s] w (CntPost s w) := by
  go_enter Tryd.func35, Tryd.ntmps35
  go_wp2_with fail
  go_step3
  go_wp2_with fail
  go_step3
  go_wp2_with fail
  go_loop [3] (fun n => ∃ k : Nat, k ≤ s.size ∧ n = .int .i64 k ∧ Hid (AllOk (s.data.toList.take k))) (fun n => s.size - (intOf n).toNat)
  case atStart => exact ⟨0, Nat.zero_le _, rfl, Lib.hid (by intro c hc; simp at hc)⟩
  case round =>
    obtain ⟨k, hk, rfl, HA⟩ := hrel
    by_cases hlt : k < s.size
    · have c256 : s[k].toNat < 256 := s[k].toNat_lt
      by_cases hc : Ok1 s[k]
      · obtain ⟨c1, c2⟩ := id hc
        have HA2 := Lib.hid (ok_snoc hlt HA.out hc)
        clear hc
        go_wp2
        go_round
        case rel => exact ⟨k + 1, by omega, by go_num, HA2⟩
        case measure => (simp [intOf] <;> omega)
      · have HN := Lib.hid (show ¬ AllOk s.data.toList from fun h => hc (h _ (Array.mem_toList_iff.2 (Array.getElem_mem _))))
        by_cases c1 : 32 ≤ s[k].toNat
        · have c2 : 126 < s[k].toNat := by
            rcases Nat.lt_or_ge 126 s[k].toNat with h | h
            · exact h
            · exact absurd ⟨c1, h⟩ hc
          clear hc
          go_wp2
          (try rw [Exit.noGoto_ret])
          go_ret
          exact ⟨k, rfl, rfl, .inr ⟨HN.out, hlt⟩⟩
        · clear hc
          go_wp2
          (try rw [Exit.noGoto_ret])
          go_ret
          exact ⟨k, rfl, rfl, .inr ⟨HN.out, hlt⟩⟩
    · obtain rfl : k = s.size := by omega
      have HAll := Lib.hid (show AllOk s.data.toList by have := HA.out; rwa [List.take_of_length_le (by rw [len_s]; omega)] at this)
      go_wp2
      (try rw [Exit.noGoto_ret])
      go_ret
      exact ⟨s.size, rfl, rfl, .inl ⟨HAll.out, rfl⟩⟩

theorem grown_of_below {w w' : World} {row : Option Nat} (h : Below w.heap.size w w') : w.grownBy w' row := ⟨h.os, h.tape, h.output, h.size, fun i hi _ => h.block i hi⟩

theorem clone (s : ByteArray) (w : World) (hs : s.size ≤ 1048576) : Calls Tryd.prog 37 #[.string s] w fun e w' => e = .returned (.string s) ∧ Below w.heap.size w w' := by
  have H := Lib.hid (Tryd.stringslite_Clone s w (by omega))
  go_enter Tryd.func37, Tryd.ntmps37
  go_wp2_with fail
  refine H.out.mono ?_
  rintro e w' ⟨rfl, hb⟩
  go_wp2
  go_ret
  exact ⟨rfl, hb⟩

theorem field_size (s : ByteArray) : ∀ l ∈ Lib.fields s.data.toList, l.length ≤ s.size := by
  have go : ∀ (l cur : List UInt8), ∀ f ∈ Lib.fieldsGo cur l, f.length ≤ cur.length + l.length := by
    intro l
    induction l with
    | nil =>
      intro cur f hf
      simp only [Lib.fieldsGo] at hf
      split at hf
      · simp at hf
      · simp only [List.mem_singleton] at hf; rw [hf]; simp
    | cons b l ih =>
      intro cur f hf
      simp only [Lib.fieldsGo] at hf
      split at hf
      · split at hf
        · have := ih [] f hf; simp only [List.length_cons, List.length_nil] at this ⊢; omega
        · rw [List.mem_cons] at hf
          rcases hf with hf | hf
          · rw [hf]; omega
          · have := ih [] f hf; simp only [List.length_cons, List.length_nil] at this ⊢; omega
      · have := ih (cur ++ [b]) f hf
        rw [List.length_append] at this
        simp only [List.length_cons, List.length_nil] at this ⊢; omega
  intro f hf
  have := go s.data.toList [] f hf
  rw [len_s] at this
  simpa using this

theorem fields_le (s : ByteArray) : (Lib.fields s.data.toList).length ≤ s.size := by
  have go : ∀ (l cur : List UInt8), (Lib.fieldsGo cur l).length ≤ cur.length + l.length := by
    intro l
    induction l with
    | nil =>
      intro cur
      cases cur with
      | nil => simp [Lib.fieldsGo]
      | cons a r => simp [Lib.fieldsGo]
    | cons b l ih =>
      intro cur
      simp only [Lib.fieldsGo]
      split
      · split
        · have := ih []; simp only [List.length_cons, List.length_nil] at this ⊢; omega
        · rename_i h
          have h1 : 1 ≤ cur.length := by
            cases cur with
            | nil => simp at h
            | cons _ _ => simp
          have := ih []; simp only [List.length_cons, List.length_nil] at this ⊢; omega
      · have := ih (cur ++ [b]); rw [List.length_append] at this; simp only [List.length_cons, List.length_nil] at this ⊢; omega
  have := go s.data.toList []
  rw [len_s] at this
  simpa [Lib.fields] using this

set_option maxRecDepth 100000 in
set_option maxHeartbeats 400000 in
theorem impl_spl (s : ByteArray) (w : World) (hs : s.size ≤ 1048576) (ht : Sp w) : Calls Tryd.prog 17 #[.string s] w (SplPost s w) := by
  by_cases hl : (600 : Int) < (s.size : Int)
  · have HN := Lib.hid (show ¬ Good s from fun h => by have := h.1; omega)
    clear ht
    go_enter Tryd.func17, Tryd.ntmps17
    go_wp2
    go_ret2
    exact ⟨⟨_, .inr ⟨HN.out, rfl, World.ownsRow_nil _ _ _ _⟩⟩, Below.refl _ _⟩
  · have HL := Lib.hid (show s.size ≤ 600 by omega)
    have HC := Lib.hid (count s w hs)
    have HT := Lib.hid ht
    clear ht
    go_enter Tryd.func17, Tryd.ntmps17
    go_wp2_with fail
    refine HC.out.mono ?_
    rintro e w' ⟨k, rfl, rfl, hr⟩
    rcases hr with ⟨hall, rfl⟩ | ⟨hno, hlt⟩
    · have HA := Lib.hid hall
      have HF := Lib.hid (Tryd.strings_Fields s w (by omega) (fun j b hj => by
        have := hall b (List.mem_of_getElem? hj)
        have := this.2
        omega) HT.out)
      clear hall
      go_wp2_with fail
      refine HF.out.mono ?_
      rintro e w' ⟨rfl, rfl⟩
      have hown : (w.alloc (.cells ((Lib.fields s.data.toList).map fun l => Value.string ⟨l.toArray⟩).toArray 9)).ownsRow w.heap.size 9 1 (.slice (some ⟨w.heap.size, 0, none⟩) (Lib.fields s.data.toList).length (Lib.fields s.data.toList).length) (Lib.fields s.data.toList).length (rowOf (Lib.fields s.data.toList)) :=
        World.ownsRow_lit w _ _ (Nat.le_refl _) (by have := fields_le s; unfold maxLen; omega) (by simp)
      have hb : Below w.heap.size w (w.alloc (.cells ((Lib.fields s.data.toList).map fun l => Value.string ⟨l.toArray⟩).toArray 9)) := (Below.refl _ _).alloc (Nat.le_refl _) _
      have HFS := Lib.hid (field_size s)
      have HG := Lib.hid (show (Lib.fields s.data.toList).length ≤ 24 → Good s from fun h => ⟨HL.out, HA.out, h⟩)
      have HNG := Lib.hid (show 24 < (Lib.fields s.data.toList).length → ¬ Good s from fun h hg => by have := hg.2.2; omega)
      have HP := Lib.hid (show ∀ e w', SplPost s w e w' ↔ SplPost s w e w' from fun _ _ => Iff.rfl)
      have hfl := fields_le s
      generalize hFd : Lib.fields s.data.toList = F at hown hb HFS HG HNG hfl ⊢
      have HFd := Lib.hid hFd
      clear hFd
      generalize w.alloc (.cells (F.map fun l => Value.string ⟨l.toArray⟩).toArray 9) = W1 at hown hb ⊢
      by_cases h24 : (24 : Int) < (F.length : Int)
      · have HN := Lib.hid (HNG.out (by omega))
        clear hown
        go_wp2
        go_ret2
        exact ⟨⟨_, .inr ⟨HN.out, rfl, World.ownsRow_nil _ _ _ _⟩⟩, hb⟩
      · have HGood := Lib.hid (HG.out (by omega))
        go_wp2_with fail
        go_loopw [24] (fun i wr => ∃ k : Nat, k ≤ F.length ∧ i = .int .i64 k ∧ wr.ownsRow w.heap.size 9 1 (.slice (some ⟨w.heap.size, 0, none⟩) F.length F.length) F.length (rowOf F) ∧ Below w.heap.size w wr) (fun i _ => F.length - (intOf i).toNat)
        case atStart => exact ⟨0, Nat.zero_le _, rfl, hown, hb⟩
        case round =>
          clear hown hb
          obtain ⟨k, hk, rfl, hown, hb⟩ := hrel
          by_cases hlt : k < F.length
          · obtain ⟨t, ht⟩ : ∃ t : ByteArray, t = ⟨(F.getD k []).toArray⟩ := ⟨_, rfl⟩
            have hrow : (rowOf F)[k]? = some (.string t) := by unfold rowOf strV; rw [ht]; simp [List.getElem?_eq_getElem hlt]
            have hcell : wr.cell? ⟨w.heap.size, k, none⟩ = some (.string t) := by rw [hown.cellAt k (by omega)]; exact hrow
            have hts : t.size ≤ 1048576 := by
              have h1 := HFS.out F[k] (List.getElem_mem hlt)
              have h2 : t.size = F[k].length := by rw [ht]; simp [ByteArray.size, List.getElem?_eq_getElem hlt]
              omega
            have HR := Lib.hid hrow
            clear ht hrow
            go_wp2_with fail
            refine (clone t _ hts).mono ?_
            rintro e w2 ⟨rfl, hb2⟩
            have hg2 : wr.grownBy w2 none := grown_of_below hb2
            have hown2 := hown.kept hg2 (.inr (by simp [Value.ownBlock]))
            have hbb := hb.trans (hb2.mono hb.size)
            have hcell2 : w2.cell? ⟨w.heap.size, k, none⟩ = some (.string t) := by rw [hown2.cellAt k (by omega)]; exact HR.out
            have hfr2 := hown2.frozenAt k
            obtain ⟨hst, _⟩ := hown2.stored k (.string t)
            have R := Lib.hid (show (w2.setCell ⟨w.heap.size, k, none⟩ (.string t)).ownsRow w.heap.size 9 1 (.slice (some ⟨w.heap.size, 0, none⟩) F.length F.length) F.length (rowOf F) by
              have e : (rowOf F).set k (.string t) = rowOf F := by
                have h1 : k < (rowOf F).length := by rw [rowOf_length]; exact hlt
                have h2 := HR.out
                rw [List.getElem?_eq_getElem h1] at h2
                injection h2 with h2
                rw [← h2, List.set_getElem_self]
              rw [e] at hst; exact hst)
            have hb3 : Below w.heap.size w (w2.setCell ⟨w.heap.size, k, none⟩ (.string t)) := hbb.setCell (Nat.le_refl _) _
            clear hown hst hown2 hcell hg2 hb2
            go_wp2
            go_roundw
            case rel => exact ⟨k + 1, by omega, by go_num, R.out, hb3⟩
            case measure => (simp [intOf] <;> omega)
          · go_wp2
            go_ret2
            exact ⟨⟨_, .inl ⟨HGood.out, rfl, by rw [HFd.out]; exact hown⟩⟩, hb⟩
    · have HN := Lib.hid (show ¬ Good s from fun h => hno h.2.1)
      clear hno
      go_wp2
      go_ret2
      exact ⟨⟨_, .inr ⟨HN.out, rfl, World.ownsRow_nil _ _ _ _⟩⟩, Below.refl _ _⟩
end Go.Proofs.YtbfmodoofkgicaaDoor.Spl
