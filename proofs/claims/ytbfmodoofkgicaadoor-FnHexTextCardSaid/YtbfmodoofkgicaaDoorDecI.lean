/- DecodeHex, the program's: it returns the bytes of the pairs of digits and true where the text has an even length of at most 40000 and digits alone, the empty string and false otherwise; nothing that was there is written. -/
import Derived.Test.YtbfmodoofkgicaaDoorDecM
import Derived.Test.YtbfmodoofkgicaaDoorShelf
namespace Go.Proofs.YtbfmodoofkgicaaDoor.Dec
set_option linter.unusedVariables false
open Go.RowKit Go.Proofs.YtbfmodoofkgicaaDoor.Base Go.Proofs.YtbfmodoofkgicaaDoor.Hex
theorem index_all : ∀ n : Nat, n < 256 → Lib.indexByte [48, 49, 50, 51, 52, 53, 54, 55, 56, 57, 97, 98, 99, 100, 101, 102] n.toUInt8 = val n := by decide +kernel
theorem impl_value (c : Nat) (hc : c < 256) (w : World) :
    Calls Tryd.prog 31 #[.string ⟨#[48, 49, 50, 51, 52, 53, 54, 55, 56, 57, 97, 98, 99, 100, 101, 102]⟩, .int .u8 (c : Int)] w fun e w' => e = .returned (.int .i64 (val c)) ∧ w = w' :=
  (Tryd.strings_IndexByte _ _ w).mono fun _ _ h => ⟨by rw [h.1, ← index_all c hc]; rfl, h.2.symm⟩

set_option maxRecDepth 100000 in
set_option maxHeartbeats 400000 in
theorem impl_even (s : ByteArray) (w : World) (hs : s.size ≤ 40000) (hev : s.size % 2 = 0) : Calls Tryd.prog 13 #[.string s] w (DecPost s w) := by
  obtain ⟨i0, hi, hz0, hz1, hz2⟩ := info_parts u8info
  have hmod : ((s.size : Int) % 2 != 0) = false := by simp; omega
  have HEV := Lib.hid hev
  clear hev
  go_enter Tryd.func13, Tryd.ntmps13
  go_wp2_with (first
    | (at_make; refine wpList_make_own _ rfl _ _ 22 rfl w.heap.size 5 i0 (.int .u8 0) 1 Tryd.underlying22 hi hz0 hz1 .i64 .i64 ((s.size : Int) / 2) (s.size / 2) rfl rfl (by omega) (by rw [hz2]; omega) (by unfold maxLen; omega) (Nat.le_refl _) ?_; intro w1 hown1 hg1))
  have hb1 : Below w.heap.size w w1 := (Below.refl w.heap.size w).grown hg1 (Nat.le_refl _) (by simp)
  clear hg1
  go_loopw [4, 5, 6, 7] (fun v i _ _ wr => ∃ k : Nat, k ≤ s.size ∧ Hid (k % 2 = 0) ∧ i = .int .i64 k ∧ allOk (s.data.toList.take k) ∧ wr.ownsRow w.heap.size 5 1 v (k / 2) ((pairs (s.data.toList.take k)).map (Value.int .u8)) ∧ Below w.heap.size w wr) (fun _ i _ _ _ => s.size - (intOf i).toNat)
  case atStart => exact ⟨0, Nat.zero_le _, Lib.hid rfl, rfl, trivial, hown1, hb1⟩
  case round =>
    clear hown1 hb1
    obtain ⟨k, hk, HK, rfl, hok, hown, hb⟩ := hrel
    by_cases hlt : k < s.size
    · have hlt2 : k + 1 < s.size := by have := HEV.out; have := HK.out; omega
      have c1 : s[k].toNat < 256 := s[k].toNat_lt
      have c2 : s[k + 1].toNat < 256 := s[k + 1].toNat_lt
      obtain ⟨a1, a2⟩ := val_bd s[k].toNat
      obtain ⟨b1, b2⟩ := val_bd s[k + 1].toNat
      go_wp2_with fail
      refine (impl_value s[k].toNat c1 _).mono ?_
      rintro e w' ⟨rfl, rfl⟩
      go_wp2_with fail
      refine (impl_value s[k + 1].toNat c2 _).mono ?_
      rintro e w' ⟨rfl, rfl⟩
      by_cases ha : val s[k].toNat < 0
      · have hbad := bad_at s k hlt2 HK.out (.inl ha)
        go_wp2
        go_ret2
        exact ⟨.inr ⟨hbad, rfl⟩, hb⟩
      · by_cases hbb : val s[k + 1].toNat < 0
        · have hbad := bad_at s k hlt2 HK.out (.inr hbb)
          go_wp2
          go_ret2
          exact ⟨.inr ⟨hbad, rfl⟩, hb⟩
        · have hok2 := Lib.hid (ok_two s k hlt2 HK.out hok (by omega) (by omega))
          have hp := pairs_length (s.data.toList.take k)
          have hw : IntKind.u8.wrap (16 * val s[k].toNat + val s[k + 1].toNat) = 16 * val s[k].toNat + val s[k + 1].toNat := by simp only [IntKind.wrap_u8]; omega
          have hbs := hb.size
          have R : ∀ (w2 : World) (v2 : Value), w2.ownsRow w.heap.size 5 1 v2 (k / 2 + 1) ((pairs (s.data.toList.take k)).map (Value.int .u8) ++ [Value.int .u8 (16 * val s[k].toNat + val s[k + 1].toNat)]) →
              w2.ownsRow w.heap.size 5 1 v2 ((k + 2) / 2) ((pairs (s.data.toList.take (k + 2))).map (Value.int .u8)) := by
            intro w2 v2 h
            rw [take_two s k hlt2, pairs_snoc _ _ _ (by rw [List.length_take, len_s]; have := HK.out; omega), List.map_append, show (k + 2) / 2 = k / 2 + 1 from by omega]
            exact h
          have HR := Lib.hid R
          clear R hp
          go_wp2_with (first
            | (at_builtin; refine wpList_append_own _ rfl _ _ 22 rfl w.heap.size 5 i0 (.int .u8 0) 1 1 Tryd.underlying22 hi hz0 hz1 hz2 rfl (by decide) _ _ _ rfl (hown.alloc _) ⟨wr.heap.size, 0, none⟩ 1 1 [.int .u8 (16 * val s[k].toNat + val s[k + 1].toNat)] rfl rfl (World.news_of_block (cs := #[.int .u8 (16 * val s[k].toNat + val s[k + 1].toNat)]) (t := 5) (fr := (0, 0)) (heap_alloc_new wr _)) (by simp [Value.oneCell']) (by unfold maxLen; omega) (by omega) (by simp; omega) ?_; intro v2 w2 hown2 hgrow _))
          have hb2 : Below w.heap.size w w2 := (hb.alloc hbs _).grown hgrow (by simp; omega) (fun g hg => (hown.lt g hg).1)
          have R2 := Lib.hid (HR.out w2 v2 hown2)
          clear hown2 hgrow hown hb HR hw
          go_wp2
          go_roundw
          case rel => exact ⟨k + 2, by omega, Lib.hid (by have := HK.out; omega), by go_num, hok2.out, R2.out, hb2⟩
          case measure => simp [intOf]; omega
    · obtain rfl : k = s.size := by omega
      have hc := convert_own hown Tryd.underlying22 Tryd.underlying5 Tryd.underlying9
      rw [List.take_of_length_le (by rw [len_s]; omega)] at hc hok
      have hbs := hb.size
      clear hown
      go_wp2
      go_ret2
      exact ⟨.inl ⟨hok, rfl⟩, hb⟩

theorem impl_no (s : ByteArray) (w : World) (hm : s.size ≤ 1048576) (h : 40000 < s.size ∨ s.size % 2 = 1) : Calls Tryd.prog 13 #[.string s] w (NoPost w) := by
  by_cases h1 : s.size % 2 = 1
  · have hmod : ((s.size : Int) % 2 != 0) = true := by simp; omega
    clear h h1
    go_enter Tryd.func13, Tryd.ntmps13
    go_wp2
    go_ret2
    exact ⟨rfl, Below.refl _ _⟩
  · have hmod : ((s.size : Int) % 2 != 0) = false := by simp; omega
    have h2 : (20000 : Int) < (s.size : Int) / 2 := by omega
    clear h h1
    go_enter Tryd.func13, Tryd.ntmps13
    go_wp2
    go_ret2
    exact ⟨rfl, Below.refl _ _⟩

end Go.Proofs.YtbfmodoofkgicaaDoor.Dec
