/- SplitFields, the model's: the fields of a line, and true; an empty slice and false if the line is not valid. -/
import Derived.Test.YtbfmodoofkgicaaDoorRows
import Derived.Test.YtbfmodoofkgicaaDoorSplM
import Derived.Test.YtbfmodoofkgicaaDoorBase
import Derived.WalkSpells
import Derived.WalkLawsBesides
import Derived.Lib.Hide
import Derived.Deep.AppendLies
namespace Go.Proofs.YtbfmodoofkgicaaDoor.Spl
set_option linter.unusedVariables false
open Go.RowKit Go.Proofs.YtbfmodoofkgicaaDoor.Base

theorem strRow : (Tryd.prog.info? 9).map (fun i => (i.zero, i.size, i.bytes)) = some (some (.string ⟨#[]⟩), 1, 16) := by kernel_rfl

/-- what both return: a slice in new memory. -/
def SplPost (s : ByteArray) (w : World) (e : Ending) (w' : World) : Prop :=
  (∃ v, (Good s ∧ e = .returned (.tuple #[v, .bool true]) ∧ w'.ownsRow w.heap.size 9 1 v (Lib.fields s.data.toList).length (rowOf (Lib.fields s.data.toList)) ∨
     ¬ Good s ∧ e = .returned (.tuple #[v, .bool false]) ∧ w'.ownsRow w.heap.size 9 1 v 0 [])) ∧ Below w.heap.size w w'

set_option maxRecDepth 100000 in
set_option maxHeartbeats 400000 in
theorem spec_spl (s : ByteArray) (w : World) (hs : s.size ≤ 1048576) : Calls Tryd.prog 18 #[.string s] w (SplPost s w) := by
  obtain ⟨i0, hi, hz0, hz1, hz2⟩ := info_parts strRow
  have hmake : ∀ W : World, W.heap.size ≥ w.heap.size → (W.alloc (.cells #[] 9)).ownsRow w.heap.size 9 1 (.slice (some ⟨W.heap.size, 0, none⟩) 0 0) 0 [] := fun W hW => World.ownsRow_made W #[] 0 hW (by unfold maxLen; omega) rfl
  have HM := Lib.hid hmake
  clear hmake
  by_cases hl : (600 : Int) < (s.size : Int)
  · have HN := Lib.hid (show ¬ Good s from fun h => by have := h.1; omega)
    go_enter Tryd.func18, Tryd.ntmps18
    go_wp2
    go_ret2
    exact ⟨⟨_, .inr ⟨HN.out, rfl, HM.out w (Nat.le_refl _)⟩⟩, (Below.refl _ _).alloc (Nat.le_refl _) _⟩
  · have HL := Lib.hid (show s.size ≤ 600 by omega)
    go_enter Tryd.func18, Tryd.ntmps18
    go_wp2_with fail
    go_loopw [4, 5, 6] (fun v bg i wr => ∃ (F : List (List UInt8)) (b k : Nat), i = .int .i64 k ∧ bg = .int .i64 b ∧ wr.ownsRow w.heap.size 9 1 v F.length (rowOf F) ∧ Below w.heap.size w wr ∧
        Hid (k ≤ s.size ∧ F.length ≤ k ∧ At s F b k ∨ k = s.size + 1 ∧ F.length ≤ k ∧ AllOk s.data.toList ∧ F = Lib.fields s.data.toList)) (fun _ _ i _ => s.size + 1 - (intOf i).toNat)
    case atStart => exact ⟨[], 0, 0, rfl, rfl, HM.out w (Nat.le_refl _), (Below.refl _ _).alloc (Nat.le_refl _) _, Lib.hid (.inl ⟨Nat.zero_le _, Nat.le_refl _, At.start s⟩)⟩
    case round =>
      obtain ⟨F, b, k, rfl, rfl, hown, hb, HR⟩ := hrel
      have hbs := hb.size
      have hs600 := HL.out
      rcases HR.out with ⟨hk, hF, hat⟩ | ⟨hk, hF, hall, hFe⟩
      · have hbk := hat.1
        have HA := Lib.hid hat
        clear hat HR
        by_cases hlt : k < s.size
        · have c256 : s[k].toNat < 256 := s[k].toNat_lt
          by_cases hc : Ok1 s[k]
          · obtain ⟨c1, c2⟩ := id hc
            have HC := Lib.hid hc
            clear hc
            by_cases h32 : s[k].toNat = 32
            · have hne : (((s[k].toNat : Nat) : Int) != 32) = false := by simp; omega
              have H32 := Lib.hid h32
              clear h32
              by_cases hbk2 : b < k
              · have hcut := cut_eq s b k (by omega) (by omega)
                have HCut := Lib.hid hcut
                have HA2 := Lib.hid (HA.out.close hlt HC.out H32.out hbk2)
                clear hcut
                go_wp2_with (first
                  | (at_builtin; refine wpList_append_own _ rfl _ _ 31 rfl w.heap.size 9 i0 (.string ⟨#[]⟩) 1 16 Tryd.underlying31 hi hz0 hz1 hz2 rfl (by decide) _ _ _ rfl (hown.alloc _) ⟨wr.heap.size, 0, none⟩ 1 1 [.string (s.extract b k)] rfl rfl (World.news_of_block (cs := #[.string (s.extract b k)]) (t := 9) (fr := (0, 0)) (heap_alloc_new wr _)) (by simp [Value.oneCell']) (by unfold maxLen; omega) (by omega) (by simp; omega) ?_; intro v2 w2 hown2 hgrow _))
                have hb2 : Below w.heap.size w w2 := (hb.alloc hbs _).grown hgrow (by simp; omega) (fun g hg => (hown.lt g hg).1)
                have R := Lib.hid (show w2.ownsRow w.heap.size 9 1 v2 (F ++ [cur s b k]).length (rowOf (F ++ [cur s b k])) by
                  rw [HCut.out] at hown2; unfold rowOf at hown2 ⊢; rw [List.map_append, List.length_append]; exact hown2)
                clear hown2 hgrow hown hb
                go_wp2
                go_roundw
                case rel => exact ⟨F ++ [cur s b k], k + 1, k + 1, by go_num, by go_num, R.out, hb2, Lib.hid (.inl ⟨by omega, by rw [List.length_append]; simp only [List.length_cons, List.length_nil]; omega, HA2.out⟩)⟩
                case measure => (simp [intOf] <;> omega)
              · have HA2 := Lib.hid (HA.out.skip hlt HC.out H32.out hbk2)
                go_wp2
                go_roundw
                case rel => exact ⟨F, k + 1, k + 1, by go_num, by go_num, hown, hb, Lib.hid (.inl ⟨by omega, by omega, HA2.out⟩)⟩
                case measure => (simp [intOf] <;> omega)
            · have hne : (((s[k].toNat : Nat) : Int) != 32) = true := by simp; omega
              have HA2 := Lib.hid (HA.out.byte hlt HC.out h32)
              clear h32
              go_wp2
              go_roundw
              case rel => exact ⟨F, b, k + 1, by go_num, rfl, hown, hb, Lib.hid (.inl ⟨by omega, by omega, HA2.out⟩)⟩
              case measure => (simp [intOf] <;> omega)
          · have HN := Lib.hid (show ¬ Good s from fun h => hc (h.2.1 _ (Array.mem_toList_iff.2 (Array.getElem_mem _))))
            have HO := Lib.hid (HM.out wr hbs)
            by_cases c1 : 32 ≤ s[k].toNat
            · have c2 : 126 < s[k].toNat := by
                rcases Nat.lt_or_ge 126 s[k].toNat with h | h
                · exact h
                · exact absurd ⟨c1, h⟩ hc
              clear hc
              go_wp2
              go_ret2
              exact ⟨⟨_, .inr ⟨HN.out, rfl, HO.out⟩⟩, hb.alloc hbs _⟩
            · clear hc
              go_wp2
              go_ret2
              exact ⟨⟨_, .inr ⟨HN.out, rfl, HO.out⟩⟩, hb.alloc hbs _⟩
        · obtain rfl : k = s.size := by omega
          have HAll := Lib.hid HA.out.all
          by_cases hbk2 : b < s.size
          · have hcut := cut_eq s b s.size (by omega) (by omega)
            have HCut := Lib.hid hcut
            have HE := Lib.hid (HA.out.end1 hbk2)
            clear hcut
            go_wp2_with (first
              | (at_builtin; refine wpList_append_own _ rfl _ _ 31 rfl w.heap.size 9 i0 (.string ⟨#[]⟩) 1 16 Tryd.underlying31 hi hz0 hz1 hz2 rfl (by decide) _ _ _ rfl (hown.alloc _) ⟨wr.heap.size, 0, none⟩ 1 1 [.string (s.extract b s.size)] rfl rfl (World.news_of_block (cs := #[.string (s.extract b s.size)]) (t := 9) (fr := (0, 0)) (heap_alloc_new wr _)) (by simp [Value.oneCell']) (by unfold maxLen; omega) (by omega) (by simp; omega) ?_; intro v2 w2 hown2 hgrow _))
            have hb2 : Below w.heap.size w w2 := (hb.alloc hbs _).grown hgrow (by simp; omega) (fun g hg => (hown.lt g hg).1)
            have R := Lib.hid (show w2.ownsRow w.heap.size 9 1 v2 (F ++ [cur s b s.size]).length (rowOf (F ++ [cur s b s.size])) by
              rw [HCut.out] at hown2; unfold rowOf at hown2 ⊢; rw [List.map_append, List.length_append]; exact hown2)
            clear hown2 hgrow hown hb
            go_wp2
            go_roundw
            case rel => exact ⟨F ++ [cur s b s.size], s.size + 1, s.size + 1, by go_num, by go_num, R.out, hb2, Lib.hid (.inr ⟨rfl, by rw [List.length_append]; simp only [List.length_cons, List.length_nil]; omega, HAll.out, HE.out.symm⟩)⟩
            case measure => (simp [intOf] <;> omega)
          · have HE := Lib.hid (HA.out.end0 hbk2)
            go_wp2
            go_roundw
            case rel => exact ⟨F, s.size + 1, s.size + 1, by go_num, by go_num, hown, hb, Lib.hid (.inr ⟨rfl, by omega, HAll.out, HE.out.symm⟩)⟩
            case measure => (simp [intOf] <;> omega)
      · have HK := Lib.hid hk
        have HA := Lib.hid hall
        have HE := Lib.hid hFe
        have hkb : ¬ (k : Int) ≤ (s.size : Int) := by omega
        obtain ⟨A, cap, rfl⟩ := own_shape hown
        have HO := Lib.hid hown
        have HM2 := Lib.hid (HM.out wr hbs)
        clear hk hall hFe HR hown
        by_cases h24 : (24 : Int) < (F.length : Int)
        · have HN := Lib.hid (show ¬ Good s from fun h => by have := h.2.2; rw [← HE.out] at this; omega)
          go_wp2
          go_ret2
          exact ⟨⟨_, .inr ⟨HN.out, rfl, HM2.out⟩⟩, hb.alloc hbs _⟩
        · have HG := Lib.hid (show Good s from ⟨HL.out, HA.out, by rw [← HE.out]; omega⟩)
          go_wp2
          go_ret2
          exact ⟨⟨_, .inl ⟨HG.out, rfl, by rw [← HE.out]; exact HO.out⟩⟩, hb⟩
end Go.Proofs.YtbfmodoofkgicaaDoor.Spl
