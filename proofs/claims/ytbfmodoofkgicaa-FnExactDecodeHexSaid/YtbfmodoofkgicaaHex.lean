/- EncodeHex, the program's and the model's: both return the lowercase hexadecimal digits of s and true where s has at most 20000 bytes, the empty string and false otherwise; nothing that was there is written. -/
import Derived.Test.YtbfmodoofkgicaaRows
import Derived.Test.YtbfmodoofkgicaaBase
import Derived.WalkKit
import Derived.WalkSpells
import Derived.WalkLawsBesides
import Derived.Deep.QuietTactic
import Derived.BigQuiet
import Derived.Lib.Hide
import Derived.Deep.RegionHeld3
import Derived.Deep.AppendLies
namespace Go.Proofs.Ytbfmodoofkgicaa.Hex
open Go.RowKit Go.Proofs.Ytbfmodoofkgicaa.Base

/-- the character of a digit, as a number. -/
def fig (x : Int) : Int := if x < 10 then 48 + x else 87 + x
/-- the digits of the bytes. -/
def digs (l : List UInt8) : List Int := l.flatMap fun c => [fig ((c.toNat : Int) / 16), fig ((c.toNat : Int) % 16)]
theorem digs_length (l : List UInt8) : (digs l).length = l.length * 2 := by
  induction l with
  | nil => rfl
  | cons c l ih => simp [digs] at *; omega
theorem digs_snoc (l : List UInt8) (c : UInt8) : digs (l ++ [c]) = digs l ++ [fig ((c.toNat : Int) / 16), fig ((c.toNat : Int) % 16)] := by simp [digs]
theorem take_snoc (s : ByteArray) (k : Nat) (h : k < s.size) : s.data.toList.take (k + 1) = s.data.toList.take k ++ [s[k]] := by
  rw [List.take_succ_eq_append_getElem (by simpa using h)]; rfl

theorem u8info : (Try.prog.info? 5).map (fun i => (i.zero, i.size, i.bytes)) = some (some (.int .u8 0), 1, 1) := by kernel_rfl

theorem hex_index : ∀ x : Nat, x < 16 → ∀ w : World, (Instr.index 9 (.string ⟨#[48, 49, 50, 51, 52, 53, 54, 55, 56, 57, 97, 98, 99, 100, 101, 102]⟩) (.int .u8 (x : Int))).run Try.prog w = .ok (.int .u8 (fig (x : Int))) w
  | 0, _, _ => by kernel_rfl
  | 1, _, _ => by kernel_rfl
  | 2, _, _ => by kernel_rfl
  | 3, _, _ => by kernel_rfl
  | 4, _, _ => by kernel_rfl
  | 5, _, _ => by kernel_rfl
  | 6, _, _ => by kernel_rfl
  | 7, _, _ => by kernel_rfl
  | 8, _, _ => by kernel_rfl
  | 9, _, _ => by kernel_rfl
  | 10, _, _ => by kernel_rfl
  | 11, _, _ => by kernel_rfl
  | 12, _, _ => by kernel_rfl
  | 13, _, _ => by kernel_rfl
  | 14, _, _ => by kernel_rfl
  | 15, _, _ => by kernel_rfl
  | x + 16, h, _ => absurd h (by omega)
theorem wrap_quo (c : Nat) (h : c < 256) : IntKind.u8.wrap ((c : Int) / 16) = (c : Int) / 16 := by simp only [IntKind.wrap_u8]; omega
theorem wrap_byte (c : Nat) (h : c < 256) : IntKind.i64.wrap (c : Int) = (c : Int) := by simp only [IntKind.wrap_i64]; omega
theorem wrap_quo64 (c : Nat) (h : c < 256) : IntKind.i64.wrap ((c : Int) / 16) = (c : Int) / 16 := by simp only [IntKind.wrap_i64]; omega
theorem tmod_byte (c : Nat) : (c : Int).tmod 16 = (c : Int) % 16 := rfl
theorem index_quo (c : Nat) (h : c < 256) (w : World) : (Instr.index 9 (.string ⟨#[48, 49, 50, 51, 52, 53, 54, 55, 56, 57, 97, 98, 99, 100, 101, 102]⟩) (.int .u8 ((c : Int) / 16))).run Try.prog w = .ok (.int .u8 (fig ((c : Int) / 16))) w :=
  hex_index (c / 16) (by omega) w
theorem index_rem (c : Nat) (w : World) : (Instr.index 9 (.string ⟨#[48, 49, 50, 51, 52, 53, 54, 55, 56, 57, 97, 98, 99, 100, 101, 102]⟩) (.int .u8 ((c : Int) % 16))).run Try.prog w = .ok (.int .u8 (fig ((c : Int) % 16))) w :=
  hex_index (c % 16) (by omega) w

set_option maxHeartbeats 400000 in
theorem impl_short (s : ByteArray) (w : World) (hs : s.size ≤ 20000) :
    Calls Try.prog 11 #[.string s] w fun e w' => e = .returned (.tuple #[.string (strOfNums (digs s.data.toList)), .bool true]) ∧ Below w.heap.size w w' := by
  obtain ⟨i0, hi, hz0, hz1, hz2⟩ := info_parts u8info
  go_enter Try.func11, Try.ntmps11
  go_wp2_with (first
    | (at_make; refine wpList_make_own _ rfl _ _ 22 rfl w.heap.size 5 i0 (.int .u8 0) 1 Try.underlying22 hi hz0 hz1 .i64 .i64 (2 * (s.size : Int)) (2 * s.size) rfl rfl (by omega) (by rw [hz2]; omega) (by unfold maxLen; omega) (Nat.le_refl _) ?_; intro w1 hown1 hg1))
  have hbw := Below.refl w.heap.size w
  have hb1 : Below w.heap.size w w1 := hbw.grown hg1 (Nat.le_refl _) (by simp)
  clear hg1 hbw
  go_loopw [4, 5, 15] (fun v _ i wr => ∃ k : Nat, k ≤ s.size ∧ i = .int .i64 k ∧ wr.ownsRow w.heap.size 5 1 v (k * 2) ((digs (s.data.toList.take k)).map (Value.int .u8)) ∧ Below w.heap.size w wr) (fun _ _ i _ => s.size - (intOf i).toNat)
  case atStart => exact ⟨0, Nat.zero_le _, rfl, by simpa [digs] using hown1, hb1⟩
  case round =>
    clear hown1 hb1
    obtain ⟨k, hk, rfl, hown, hb⟩ := hrel
    by_cases hlt : k < s.size
    · have hc : s[k].toNat < 256 := s[k].toNat_lt
      have e1 := wrap_quo s[k].toNat hc
      have e2 := tmod_byte s[k].toNat
      have i1 := index_quo s[k].toNat hc
      have i2 := index_rem s[k].toNat
      go_wp2_with fail
      have hbs := hb.size
      have hnl := digs_length (s.data.toList.take k)
      go_region_held3 (fun _ => True) (trivial) ((refine step_append_lies _ (by rfl) _ _ _ (by rfl) w.heap.size 5 i0 _ 1 1 Try.underlying22 hi hz0 hz1 hz2 rfl (by omega) u4 (k * 2) ((digs (s.data.toList.take k)).map (Value.int .u8)) (by rfl) ((hown.alloc _).drew) ⟨wr.heap.size, 0, none⟩ 2 2 [.int .u8 (fig ((s[k].toNat : Int) / 16)), .int .u8 (fig ((s[k].toNat : Int) % 16))] (by rfl) (by rfl) (World.news_of_block (cs := #[.int .u8 (fig ((s[k].toNat : Int) / 16)), .int .u8 (fig ((s[k].toNat : Int) % 16))]) (t := 5) (fr := (0, 0)) (heap_alloc_new wr _)) (by simp [Value.oneCell']) (by omega) (by unfold maxLen; omega) (by omega) (by simp; omega) (wr.heap.size + 1) (by simp) ?_; intro gg cap w2 hown2 hgrow hat hlt2))
      all_goals
        have hb2 : Below w.heap.size w w2 := ((hb.alloc hbs _).drew).grown hgrow (by simp; omega) (fun g hg => (hown.lt g hg).1)
        clear hgrow hat
        have R : w2.ownsRow w.heap.size 5 1 (.slice (some ⟨gg, 0, none⟩) (k * 2 + 2) cap) ((k + 1) * 2) ((digs (s.data.toList.take (k + 1))).map (Value.int .u8)) := by
          rw [take_snoc s k hlt, digs_snoc, List.map_append, show (k + 1) * 2 = k * 2 + 2 from by omega]; exact hown2
        clear hown2 hown hb hlt2
        have H := Lib.hid R
        clear R
        go_wp2
        go_roundw
        case rel => exact ⟨k + 1, by omega, by go_num, H.out, hb2⟩
        case measure => simp [intOf]; omega
    · obtain rfl : k = s.size := by omega
      have hc := convert_own hown Try.underlying22 Try.underlying5 Try.underlying9
      rw [List.take_of_length_le (by simp)] at hc
      have hbs := hb.size
      clear hown
      go_wp2
      go_ret2
      exact ⟨rfl, hb⟩

set_option maxHeartbeats 400000 in
theorem impl_long (s : ByteArray) (w : World) (hs : 20000 < s.size) (hm : s.size ≤ maxLen) :
    Calls Try.prog 11 #[.string s] w fun e w' => e = .returned (.tuple #[.string ByteArray.empty, .bool false]) ∧ Below w.heap.size w w' := by
  unfold maxLen at hm
  go_enter Try.func11, Try.ntmps11
  go_wp2
  go_ret2
  exact ⟨rfl, Below.refl _ _⟩

set_option maxHeartbeats 400000 in
theorem spec_long (s : ByteArray) (w : World) (hs : 20000 < s.size) (hm : s.size ≤ maxLen) :
    Calls Try.prog 10 #[.string s] w fun e w' => e = .returned (.tuple #[.string ByteArray.empty, .bool false]) ∧ Below w.heap.size w w' := by
  unfold maxLen at hm
  go_enter Try.func10, Try.ntmps10
  go_wp2
  go_ret2
  exact ⟨rfl, Below.refl _ _⟩

theorem figure (x : Int) (w : World) (h0 : 0 ≤ x) (h1 : x < 16) :
    Calls Try.prog 19 #[.int .i64 x] w fun e w' => e = .returned (.int .u8 (fig x)) ∧ w = w' := by
  unfold fig
  by_cases h : x < 10
  · rw [if_pos h]
    go_enter Try.func19, Try.ntmps19
    go_wp2
    go_ret
    exact ⟨by go_num, rfl⟩
  · rw [if_neg h]
    go_enter Try.func19, Try.ntmps19
    go_wp2
    go_ret
    exact ⟨by go_num, rfl⟩

set_option maxHeartbeats 400000 in
theorem spec_short (s : ByteArray) (w : World) (hs : s.size ≤ 20000) :
    Calls Try.prog 10 #[.string s] w fun e w' => e = .returned (.tuple #[.string (strOfNums (digs s.data.toList)), .bool true]) ∧ Below w.heap.size w w' := by
  obtain ⟨i0, hi, hz0, hz1, hz2⟩ := info_parts u8info
  go_enter Try.func10, Try.ntmps10
  go_wp2_with fail
  go_loopw [4, 5] (fun v i wr => ∃ k : Nat, k ≤ s.size ∧ i = .int .i64 k ∧ wr.ownsRow w.heap.size 5 1 v (k * 2) ((digs (s.data.toList.take k)).map (Value.int .u8)) ∧ Below w.heap.size w wr) (fun _ i _ => s.size - (intOf i).toNat)
  case atStart => exact ⟨0, Nat.zero_le _, rfl, World.ownsRow_made w #[] 0 (Nat.le_refl _) (by unfold maxLen; omega) rfl, (Below.refl _ _).alloc (Nat.le_refl _) _⟩
  case round =>
    obtain ⟨k, hk, rfl, hown, hb⟩ := hrel
    by_cases hlt : k < s.size
    · have hc : s[k].toNat < 256 := s[k].toNat_lt
      have e1 := wrap_byte s[k].toNat hc
      have e2 := wrap_quo64 s[k].toNat hc
      have e3 := tmod_byte s[k].toNat
      go_wp2_with fail
      have hbs := hb.size
      have hnl := digs_length (s.data.toList.take k)
      go_region_held3 (fun _ => True) (trivial) (first | (refine step_append_lies _ (by rfl) _ _ _ (by rfl) w.heap.size 5 i0 _ 1 1 Try.underlying22 hi hz0 hz1 hz2 rfl (by omega) u4 (k * 2) ((digs (s.data.toList.take k)).map (Value.int .u8)) (by rfl) ((hown.alloc _).drew) ⟨wr.heap.size, 0, none⟩ 2 2 [.int .u8 (fig ((s[k].toNat : Int) / 16)), .int .u8 (fig ((s[k].toNat : Int) % 16))] (by rfl) (by rfl) (World.news_of_block (cs := #[.int .u8 (fig ((s[k].toNat : Int) / 16)), .int .u8 (fig ((s[k].toNat : Int) % 16))]) (t := 5) (fr := (0, 0)) (heap_alloc_new wr _)) (by simp [Value.oneCell']) (by omega) (by unfold maxLen; omega) (by omega) (by simp; omega) (wr.heap.size + 1) (by simp) ?_; intro gg cap w2 hown2 hgrow hat hlt2) | (go_at_call 19; refine (figure _ _ (by omega) (by omega)).mono ?_; rintro e w' ⟨rfl, rfl⟩))
      all_goals
        have hb2 : Below w.heap.size w w2 := ((hb.alloc hbs _).drew).grown hgrow (by simp; omega) (fun g hg => (hown.lt g hg).1)
        clear hgrow hat
        have R : w2.ownsRow w.heap.size 5 1 (.slice (some ⟨gg, 0, none⟩) (k * 2 + 2) cap) ((k + 1) * 2) ((digs (s.data.toList.take (k + 1))).map (Value.int .u8)) := by
          rw [take_snoc s k hlt, digs_snoc, List.map_append, show (k + 1) * 2 = k * 2 + 2 from by omega]; exact hown2
        clear hown2 hown hb hlt2
        have H := Lib.hid R
        clear R
        go_wp2
        go_roundw
        case rel => exact ⟨k + 1, by omega, by go_num, H.out, hb2⟩
        case measure => simp [intOf]; omega
    · obtain rfl : k = s.size := by omega
      have hc := convert_own hown Try.underlying22 Try.underlying5 Try.underlying9
      rw [List.take_of_length_le (by simp)] at hc
      have hbs := hb.size
      clear hown
      go_wp2
      go_ret2
      exact ⟨rfl, hb⟩

/-- THE LAW: it returns true. -/
theorem encode_law (s : ByteArray) (hs : s.size ≤ maxLen) (w : World) :
    Calls Try.prog 4 #[.string s] w fun e w' => e = .returned (.bool true) ∧ Below w.heap.size w w' := by
  unfold maxLen at hs
  by_cases h0 : 1048576 < s.size
  · go_enter Try.func4, Try.ntmps4
    go_wp2
    go_ret
    exact ⟨rfl, Below.refl _ _⟩
  · by_cases h1 : 20000 < s.size
    · go_enter Try.func4, Try.ntmps4
      go_wp2_with fail
      refine (spec_long s _ h1 (by unfold maxLen; omega)).mono ?_
      rintro e w1 ⟨rfl, hb1⟩
      go_wp2_with fail
      refine (impl_long s _ h1 (by unfold maxLen; omega)).mono ?_
      rintro e w2 ⟨rfl, hb2⟩
      go_wp2
      go_ret
      exact ⟨rfl, hb1.trans (hb2.mono hb1.size)⟩
    · go_enter Try.func4, Try.ntmps4
      go_wp2_with fail
      refine (spec_short s _ (by omega)).mono ?_
      rintro e w1 ⟨rfl, hb1⟩
      go_wp2_with fail
      refine (impl_short s _ (by omega)).mono ?_
      rintro e w2 ⟨rfl, hb2⟩
      generalize strOfNums (digs s.data.toList) = r
      go_wp2
      go_ret
      exact ⟨rfl, hb1.trans (hb2.mono hb1.size)⟩
end Go.Proofs.Ytbfmodoofkgicaa.Hex
