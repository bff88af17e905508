/- DecodeHex, the program's and the model's: both return the bytes of the pairs of digits and true where the text has an even length of at most 40000 and digits alone, the empty string and false otherwise; nothing that was there is written. -/
import Derived.Test.YtbfmodoofkgicaaHex
import Derived.Test.YtbfmodoofkgicaaShelf
namespace Go.Proofs.Ytbfmodoofkgicaa.Dec
open Go.RowKit Go.Proofs.Ytbfmodoofkgicaa.Base Go.Proofs.Ytbfmodoofkgicaa.Hex

/-- the value of a hexadecimal digit, -1 for another character. -/
def val (c : Nat) : Int := if 48 ≤ c ∧ c ≤ 57 then c - 48 else if 97 ≤ c ∧ c ≤ 102 then c - 87 else -1
theorem val_bd (c : Nat) : -1 ≤ val c ∧ val c ≤ 15 := by unfold val; split <;> (try split) <;> omega
/-- the bytes that pairs of digits stand for. -/
def pairs : List UInt8 → List Int
  | a :: b :: r => (16 * val a.toNat + val b.toNat) :: pairs r
  | _ => []
/-- all pairs are digits. -/
def allOk : List UInt8 → Prop
  | a :: b :: r => (0 ≤ val a.toNat ∧ 0 ≤ val b.toNat) ∧ allOk r
  | _ => True
theorem pairs_snoc (a b : UInt8) : ∀ l : List UInt8, l.length % 2 = 0 → pairs (l ++ [a, b]) = pairs l ++ [16 * val a.toNat + val b.toNat]
  | [], _ => rfl
  | [_], h => by simp at h
  | x :: y :: r, h => by
    have ih := pairs_snoc a b r (by simp only [List.length_cons] at h; omega)
    simp only [List.cons_append, pairs, ih]
theorem len_s (s : ByteArray) : s.data.toList.length = s.size := Array.length_toList
theorem pairs_length : ∀ l : List UInt8, (pairs l).length = l.length / 2
  | [] => rfl
  | [_] => by simp [pairs]
  | x :: y :: r => by
    have ih := pairs_length r
    simp only [pairs, List.length_cons, ih]; omega
theorem allOk_append (r : List UInt8) : ∀ l : List UInt8, l.length % 2 = 0 → (allOk (l ++ r) ↔ allOk l ∧ allOk r)
  | [], _ => by simp [allOk]
  | [_], h => by simp at h
  | x :: y :: t, h => by
    have ih := allOk_append r t (by simp only [List.length_cons] at h; omega)
    simp only [List.cons_append, allOk, ih, and_assoc]
theorem split_at (s : ByteArray) (k : Nat) (h : k + 1 < s.size) : s.data.toList = s.data.toList.take k ++ (s[k] :: s[k + 1] :: s.data.toList.drop (k + 2)) := by
  have h1 : k < s.data.toList.length := by rw [len_s]; omega
  have h2 : k + 1 < s.data.toList.length := by rw [len_s]; omega
  have e1 := List.drop_eq_getElem_cons h1
  have e2 := List.drop_eq_getElem_cons h2
  have e0 := (List.take_append_drop k s.data.toList).symm
  rw [e1, e2] at e0
  exact e0
theorem take_two (s : ByteArray) (k : Nat) (h : k + 1 < s.size) : s.data.toList.take (k + 2) = s.data.toList.take k ++ [s[k], s[k + 1]] := by
  rw [take_snoc s (k + 1) h, take_snoc s k (by omega), List.append_assoc]; rfl
theorem ok_two (s : ByteArray) (k : Nat) (h : k + 1 < s.size) (he : k % 2 = 0) (h0 : allOk (s.data.toList.take k)) (ha : 0 ≤ val s[k].toNat) (hb : 0 ≤ val s[k + 1].toNat) : allOk (s.data.toList.take (k + 2)) := by
  rw [take_two s k h, allOk_append _ _ (by rw [List.length_take, len_s]; omega)]
  exact ⟨h0, ⟨ha, hb⟩, trivial⟩
theorem bad_at (s : ByteArray) (k : Nat) (h : k + 1 < s.size) (he : k % 2 = 0) (hab : val s[k].toNat < 0 ∨ val s[k + 1].toNat < 0) : ¬ allOk s.data.toList := by
  rw [split_at s k h, allOk_append _ _ (by rw [List.length_take, len_s]; omega)]
  rintro ⟨_, ⟨ha, hb⟩, _⟩
  omega

/-- what both return for a text of even length that isn't too long. -/
def DecPost (s : ByteArray) (w : World) (e : Ending) (w' : World) : Prop :=
  (allOk s.data.toList ∧ e = .returned (.tuple #[.string (strOfNums (pairs s.data.toList)), .bool true]) ∨
   ¬ allOk s.data.toList ∧ e = .returned (.tuple #[.string ByteArray.empty, .bool false])) ∧ Below w.heap.size w w'

theorem spec_value (c : Nat) (hc : c < 256) (w : World) :
    Calls Try.prog 20 #[.int .u8 (c : Int)] w fun e w' => e = .returned (.int .i64 (val c)) ∧ w = w' := by
  unfold val
  by_cases h1 : 48 ≤ c
  · by_cases h2 : c ≤ 57
    · rw [if_pos ⟨h1, h2⟩]
      go_enter Try.func20, Try.ntmps20
      go_wp2
      go_ret
      exact ⟨by go_num, rfl⟩
    · rw [if_neg (by omega)]
      by_cases h3 : 97 ≤ c
      · by_cases h4 : c ≤ 102
        · rw [if_pos ⟨h3, h4⟩]
          go_enter Try.func20, Try.ntmps20
          go_wp2
          go_ret
          exact ⟨by go_num, rfl⟩
        · rw [if_neg (by omega)]
          go_enter Try.func20, Try.ntmps20
          go_wp2
          go_ret
          exact ⟨by go_num, rfl⟩
      · rw [if_neg (by omega)]
        go_enter Try.func20, Try.ntmps20
        go_wp2
        go_ret
        exact ⟨by go_num, rfl⟩
  · rw [if_neg (by omega), if_neg (by omega)]
    go_enter Try.func20, Try.ntmps20
    go_wp2
    go_ret
    exact ⟨by go_num, rfl⟩

theorem index_all : ∀ n : Nat, n < 256 → Lib.indexByte [48, 49, 50, 51, 52, 53, 54, 55, 56, 57, 97, 98, 99, 100, 101, 102] n.toUInt8 = val n := by decide +kernel
theorem impl_value (c : Nat) (hc : c < 256) (w : World) :
    Calls Try.prog 21 #[.string ⟨#[48, 49, 50, 51, 52, 53, 54, 55, 56, 57, 97, 98, 99, 100, 101, 102]⟩, .int .u8 (c : Int)] w fun e w' => e = .returned (.int .i64 (val c)) ∧ w = w' :=
  (Try.strings_IndexByte _ _ w).mono fun _ _ h => ⟨by rw [h.1, ← index_all c hc]; rfl, h.2.symm⟩

set_option maxHeartbeats 400000 in
theorem spec_even (s : ByteArray) (w : World) (hs : s.size ≤ 40000) (hev : s.size % 2 = 0) : Calls Try.prog 12 #[.string s] w (DecPost s w) := by
  obtain ⟨i0, hi, hz0, hz1, hz2⟩ := info_parts u8info
  have hmod : ((s.size : Int) % 2 != 0) = false := by simp; omega
  have HEV := Lib.hid hev
  clear hev
  go_enter Try.func12, Try.ntmps12
  go_wp2_with fail
  go_loopw [4, 5, 6, 7] (fun v i _ _ wr => ∃ k : Nat, k ≤ s.size ∧ Hid (k % 2 = 0) ∧ i = .int .i64 k ∧ allOk (s.data.toList.take k) ∧ wr.ownsRow w.heap.size 5 1 v (k / 2) ((pairs (s.data.toList.take k)).map (Value.int .u8)) ∧ Below w.heap.size w wr) (fun _ i _ _ _ => s.size - (intOf i).toNat)
  case atStart => exact ⟨0, Nat.zero_le _, Lib.hid rfl, rfl, trivial, World.ownsRow_made w #[] 0 (Nat.le_refl _) (by unfold maxLen; omega) rfl, (Below.refl _ _).alloc (Nat.le_refl _) _⟩
  case round =>
    obtain ⟨k, hk, HK, rfl, hok, hown, hb⟩ := hrel
    by_cases hlt : k < s.size
    · have hlt2 : k + 1 < s.size := by have := HEV.out; have := HK.out; omega
      have c1 : s[k].toNat < 256 := s[k].toNat_lt
      have c2 : s[k + 1].toNat < 256 := s[k + 1].toNat_lt
      obtain ⟨a1, a2⟩ := val_bd s[k].toNat
      obtain ⟨b1, b2⟩ := val_bd s[k + 1].toNat
      go_wp2_with fail
      refine (spec_value s[k].toNat c1 _).mono ?_
      rintro e w' ⟨rfl, rfl⟩
      go_wp2_with fail
      refine (spec_value s[k + 1].toNat c2 _).mono ?_
      rintro e w' ⟨rfl, rfl⟩
      by_cases ha : val s[k].toNat < 0
      · have hbad := bad_at s k hlt2 HK.out (.inl ha)
        go_wp2
        go_ret2
        exact ⟨.inr ⟨hbad, rfl⟩, hb⟩
      · by_cases hbb : val s[k + 1].toNat < 0
        · have hbad := bad_at s k hlt2 HK.out (.inr hbb)
          go_wp2
          go_ret2
          exact ⟨.inr ⟨hbad, rfl⟩, hb⟩
        · have hok2 := Lib.hid (ok_two s k hlt2 HK.out hok (by omega) (by omega))
          have hp := pairs_length (s.data.toList.take k)
          have hw : IntKind.u8.wrap (16 * val s[k].toNat + val s[k + 1].toNat) = 16 * val s[k].toNat + val s[k + 1].toNat := by simp only [IntKind.wrap_u8]; omega
          have hbs := hb.size
          have R : ∀ (w2 : World) (v2 : Value), w2.ownsRow w.heap.size 5 1 v2 (k / 2 + 1) ((pairs (s.data.toList.take k)).map (Value.int .u8) ++ [Value.int .u8 (16 * val s[k].toNat + val s[k + 1].toNat)]) →
              w2.ownsRow w.heap.size 5 1 v2 ((k + 2) / 2) ((pairs (s.data.toList.take (k + 2))).map (Value.int .u8)) := by
            intro w2 v2 h
            rw [take_two s k hlt2, pairs_snoc _ _ _ (by rw [List.length_take, len_s]; have := HK.out; omega), List.map_append, show (k + 2) / 2 = k / 2 + 1 from by omega]
            exact h
          have HR := Lib.hid R
          clear R hp
          go_wp2_with (first
            | (at_builtin; refine wpList_append_own _ rfl _ _ 22 rfl w.heap.size 5 i0 (.int .u8 0) 1 1 Try.underlying22 hi hz0 hz1 hz2 rfl (by decide) _ _ _ rfl (hown.alloc _) ⟨wr.heap.size, 0, none⟩ 1 1 [.int .u8 (16 * val s[k].toNat + val s[k + 1].toNat)] rfl rfl (World.news_of_block (cs := #[.int .u8 (16 * val s[k].toNat + val s[k + 1].toNat)]) (t := 5) (fr := (0, 0)) (heap_alloc_new wr _)) (by simp [Value.oneCell']) (by unfold maxLen; omega) (by omega) (by simp; omega) ?_; intro v2 w2 hown2 hgrow _))
          have hb2 : Below w.heap.size w w2 := (hb.alloc hbs _).grown hgrow (by simp; omega) (fun g hg => (hown.lt g hg).1)
          have R2 := Lib.hid (HR.out w2 v2 hown2)
          clear hown2 hgrow hown hb HR hw
          go_wp2
          go_roundw
          case rel => exact ⟨k + 2, by omega, Lib.hid (by have := HK.out; omega), by go_num, hok2.out, R2.out, hb2⟩
          case measure => simp [intOf]; omega
    · obtain rfl : k = s.size := by omega
      have hc := convert_own hown Try.underlying22 Try.underlying5 Try.underlying9
      rw [List.take_of_length_le (by rw [len_s]; omega)] at hc hok
      have hbs := hb.size
      clear hown
      go_wp2
      go_ret2
      exact ⟨.inl ⟨hok, rfl⟩, hb⟩
set_option maxHeartbeats 400000 in
theorem impl_even (s : ByteArray) (w : World) (hs : s.size ≤ 40000) (hev : s.size % 2 = 0) : Calls Try.prog 13 #[.string s] w (DecPost s w) := by
  obtain ⟨i0, hi, hz0, hz1, hz2⟩ := info_parts u8info
  have hmod : ((s.size : Int) % 2 != 0) = false := by simp; omega
  have HEV := Lib.hid hev
  clear hev
  go_enter Try.func13, Try.ntmps13
  go_wp2_with (first
    | (at_make; refine wpList_make_own _ rfl _ _ 22 rfl w.heap.size 5 i0 (.int .u8 0) 1 Try.underlying22 hi hz0 hz1 .i64 .i64 ((s.size : Int) / 2) (s.size / 2) rfl rfl (by omega) (by rw [hz2]; omega) (by unfold maxLen; omega) (Nat.le_refl _) ?_; intro w1 hown1 hg1))
  have hb1 : Below w.heap.size w w1 := (Below.refl w.heap.size w).grown hg1 (Nat.le_refl _) (by simp)
  clear hg1
  go_loopw [4, 5, 6, 7] (fun v i _ _ wr => ∃ k : Nat, k ≤ s.size ∧ Hid (k % 2 = 0) ∧ i = .int .i64 k ∧ allOk (s.data.toList.take k) ∧ wr.ownsRow w.heap.size 5 1 v (k / 2) ((pairs (s.data.toList.take k)).map (Value.int .u8)) ∧ Below w.heap.size w wr) (fun _ i _ _ _ => s.size - (intOf i).toNat)
  case atStart => exact ⟨0, Nat.zero_le _, Lib.hid rfl, rfl, trivial, hown1, hb1⟩
  case round =>
    clear hown1 hb1
    obtain ⟨k, hk, HK, rfl, hok, hown, hb⟩ := hrel
    by_cases hlt : k < s.size
    · have hlt2 : k + 1 < s.size := by have := HEV.out; have := HK.out; omega
      have c1 : s[k].toNat < 256 := s[k].toNat_lt
      have c2 : s[k + 1].toNat < 256 := s[k + 1].toNat_lt
      obtain ⟨a1, a2⟩ := val_bd s[k].toNat
      obtain ⟨b1, b2⟩ := val_bd s[k + 1].toNat
      go_wp2_with fail
      refine (impl_value s[k].toNat c1 _).mono ?_
      rintro e w' ⟨rfl, rfl⟩
      go_wp2_with fail
      refine (impl_value s[k + 1].toNat c2 _).mono ?_
      rintro e w' ⟨rfl, rfl⟩
      by_cases ha : val s[k].toNat < 0
      · have hbad := bad_at s k hlt2 HK.out (.inl ha)
        go_wp2
        go_ret2
        exact ⟨.inr ⟨hbad, rfl⟩, hb⟩
      · by_cases hbb : val s[k + 1].toNat < 0
        · have hbad := bad_at s k hlt2 HK.out (.inr hbb)
          go_wp2
          go_ret2
          exact ⟨.inr ⟨hbad, rfl⟩, hb⟩
        · have hok2 := Lib.hid (ok_two s k hlt2 HK.out hok (by omega) (by omega))
          have hp := pairs_length (s.data.toList.take k)
          have hw : IntKind.u8.wrap (16 * val s[k].toNat + val s[k + 1].toNat) = 16 * val s[k].toNat + val s[k + 1].toNat := by simp only [IntKind.wrap_u8]; omega
          have hbs := hb.size
          have R : ∀ (w2 : World) (v2 : Value), w2.ownsRow w.heap.size 5 1 v2 (k / 2 + 1) ((pairs (s.data.toList.take k)).map (Value.int .u8) ++ [Value.int .u8 (16 * val s[k].toNat + val s[k + 1].toNat)]) →
              w2.ownsRow w.heap.size 5 1 v2 ((k + 2) / 2) ((pairs (s.data.toList.take (k + 2))).map (Value.int .u8)) := by
            intro w2 v2 h
            rw [take_two s k hlt2, pairs_snoc _ _ _ (by rw [List.length_take, len_s]; have := HK.out; omega), List.map_append, show (k + 2) / 2 = k / 2 + 1 from by omega]
            exact h
          have HR := Lib.hid R
          clear R hp
          go_wp2_with (first
            | (at_builtin; refine wpList_append_own _ rfl _ _ 22 rfl w.heap.size 5 i0 (.int .u8 0) 1 1 Try.underlying22 hi hz0 hz1 hz2 rfl (by decide) _ _ _ rfl (hown.alloc _) ⟨wr.heap.size, 0, none⟩ 1 1 [.int .u8 (16 * val s[k].toNat + val s[k + 1].toNat)] rfl rfl (World.news_of_block (cs := #[.int .u8 (16 * val s[k].toNat + val s[k + 1].toNat)]) (t := 5) (fr := (0, 0)) (heap_alloc_new wr _)) (by simp [Value.oneCell']) (by unfold maxLen; omega) (by omega) (by simp; omega) ?_; intro v2 w2 hown2 hgrow _))
          have hb2 : Below w.heap.size w w2 := (hb.alloc hbs _).grown hgrow (by simp; omega) (fun g hg => (hown.lt g hg).1)
          have R2 := Lib.hid (HR.out w2 v2 hown2)
          clear hown2 hgrow hown hb HR hw
          go_wp2
          go_roundw
          case rel => exact ⟨k + 2, by omega, Lib.hid (by have := HK.out; omega), by go_num, hok2.out, R2.out, hb2⟩
          case measure => simp [intOf]; omega
    · obtain rfl : k = s.size := by omega
      have hc := convert_own hown Try.underlying22 Try.underlying5 Try.underlying9
      rw [List.take_of_length_le (by rw [len_s]; omega)] at hc hok
      have hbs := hb.size
      clear hown
      go_wp2
      go_ret2
      exact ⟨.inl ⟨hok, rfl⟩, hb⟩

/-- what both return for a text of odd length, or one that is too long. -/
def NoPost (w : World) (e : Ending) (w' : World) : Prop := e = .returned (.tuple #[.string ByteArray.empty, .bool false]) ∧ Below w.heap.size w w'

theorem spec_no (s : ByteArray) (w : World) (hm : s.size ≤ 1048576) (h : 40000 < s.size ∨ s.size % 2 = 1) : Calls Try.prog 12 #[.string s] w (NoPost w) := by
  by_cases h1 : 40000 < s.size
  · clear h
    go_enter Try.func12, Try.ntmps12
    go_wp2
    go_ret2
    exact ⟨rfl, Below.refl _ _⟩
  · have hmod : ((s.size : Int) % 2 != 0) = true := by simp; omega
    clear h
    go_enter Try.func12, Try.ntmps12
    go_wp2
    go_ret2
    exact ⟨rfl, Below.refl _ _⟩

theorem impl_no (s : ByteArray) (w : World) (hm : s.size ≤ 1048576) (h : 40000 < s.size ∨ s.size % 2 = 1) : Calls Try.prog 13 #[.string s] w (NoPost w) := by
  by_cases h1 : s.size % 2 = 1
  · have hmod : ((s.size : Int) % 2 != 0) = true := by simp; omega
    clear h h1
    go_enter Try.func13, Try.ntmps13
    go_wp2
    go_ret2
    exact ⟨rfl, Below.refl _ _⟩
  · have hmod : ((s.size : Int) % 2 != 0) = false := by simp; omega
    have h2 : (20000 : Int) < (s.size : Int) / 2 := by omega
    clear h h1
    go_enter Try.func13, Try.ntmps13
    go_wp2
    go_ret2
    exact ⟨rfl, Below.refl _ _⟩

/-- THE LAW: it returns true. -/
theorem decode_law (s : ByteArray) (hs : s.size ≤ maxLen) (w : World) :
    Calls Try.prog 5 #[.string s] w fun e w' => e = .returned (.bool true) ∧ Below w.heap.size w w' := by
  unfold maxLen at hs
  by_cases h0 : 1048576 < s.size
  · go_enter Try.func5, Try.ntmps5
    go_wp2
    go_ret
    exact ⟨rfl, Below.refl _ _⟩
  · by_cases h1 : 40000 < s.size ∨ s.size % 2 = 1
    · have H1 := Lib.hid h1
      clear h1
      go_enter Try.func5, Try.ntmps5
      go_wp2_with fail
      refine (spec_no s _ (by omega) H1.out).mono ?_
      rintro e w1 ⟨rfl, hb1⟩
      go_wp2_with fail
      refine (impl_no s _ (by omega) H1.out).mono ?_
      rintro e w2 ⟨rfl, hb2⟩
      go_wp2
      go_ret
      exact ⟨rfl, hb1.trans (hb2.mono hb1.size)⟩
    · have H2 := Lib.hid (show s.size % 2 = 0 from by omega)
      have h3 : s.size ≤ 40000 := by omega
      clear h1
      go_enter Try.func5, Try.ntmps5
      go_wp2_with fail
      refine (spec_even s _ h3 H2.out).mono ?_
      rintro e w1 ⟨hd1, hb1⟩
      rcases hd1 with ⟨ho1, rfl⟩ | ⟨ho1, rfl⟩
      all_goals
        have HO := Lib.hid ho1
        clear ho1
        go_wp2_with fail
        refine (impl_even s _ h3 H2.out).mono ?_
        rintro e w2 ⟨hd2, hb2⟩
        rcases hd2 with ⟨ho2, rfl⟩ | ⟨ho2, rfl⟩
        all_goals
          first
          | exact absurd HO.out ho2
          | exact absurd ho2 HO.out
          | (clear ho2
             generalize strOfNums (pairs s.data.toList) = r
             go_wp2
             go_ret
             exact ⟨rfl, hb1.trans (hb2.mono hb1.size)⟩)
          | (clear ho2
             go_wp2
             go_ret
             exact ⟨rfl, hb1.trans (hb2.mono hb1.size)⟩)
end Go.Proofs.Ytbfmodoofkgicaa.Dec
