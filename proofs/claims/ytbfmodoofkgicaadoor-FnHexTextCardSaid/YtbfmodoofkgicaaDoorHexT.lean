/- FnHexText: a string can be decoded from its hexadecimal encoding, and longer strings are rejected. -/
import Derived.Test.YtbfmodoofkgicaaDoorHexI
import Derived.Test.YtbfmodoofkgicaaDoorDecI
import Derived.Test.YtbfmodoofkgicaaDoorFmtI
import Derived.Test.YtbfmodoofkgicaaDoorDrawS
namespace Go.Proofs.YtbfmodoofkgicaaDoor.HexT
set_option linter.unusedVariables false
open Go.RowKit Go.Proofs.YtbfmodoofkgicaaDoor.Base Go.Proofs.YtbfmodoofkgicaaDoor.Hex Go.Proofs.YtbfmodoofkgicaaDoor.Dec Go.Proofs.YtbfmodoofkgicaaDoor.Fmt Go.Proofs.YtbfmodoofkgicaaDoor.Draw

/-- the text of the digits. -/
def enc (s : ByteArray) : ByteArray := strOfNums (digs s.data.toList)
theorem fig_val : ∀ x : Nat, x < 16 → val (UInt8.ofNat (fig (x : Int)).toNat).toNat = x := by decide +kernel
theorem enc_list (s : ByteArray) : (enc s).data.toList = s.data.toList.flatMap fun c => [UInt8.ofNat (fig ((c.toNat : Int) / 16)).toNat, UInt8.ofNat (fig ((c.toNat : Int) % 16)).toNat] := by
  unfold enc
  rw [strOfNums_data]
  generalize s.data.toList = l
  induction l with
  | nil => rfl
  | cons c r ih =>
    simp only [digs, List.flatMap_cons, List.map_append, List.map_cons, List.map_nil] at ih ⊢
    rw [ih]
theorem fig_hi (c : UInt8) : val (UInt8.ofNat (fig ((c.toNat : Int) / 16)).toNat).toNat = ((c.toNat / 16 : Nat) : Int) := fig_val (c.toNat / 16) (by have := c.toNat_lt; omega)
theorem fig_lo (c : UInt8) : val (UInt8.ofNat (fig ((c.toNat : Int) % 16)).toNat).toNat = ((c.toNat % 16 : Nat) : Int) := fig_val (c.toNat % 16) (by omega)
theorem pairs_enc (l : List UInt8) : pairs (l.flatMap fun c => [UInt8.ofNat (fig ((c.toNat : Int) / 16)).toNat, UInt8.ofNat (fig ((c.toNat : Int) % 16)).toNat]) = l.map (fun c => (c.toNat : Int)) := by
  induction l with
  | nil => rfl
  | cons c r ih =>
    simp only [List.flatMap_cons, List.cons_append, List.nil_append, pairs, List.map_cons]
    rw [ih, fig_hi, fig_lo]
    congr 1
    omega
theorem ok_enc (l : List UInt8) : allOk (l.flatMap fun c => [UInt8.ofNat (fig ((c.toNat : Int) / 16)).toNat, UInt8.ofNat (fig ((c.toNat : Int) % 16)).toNat]) := by
  induction l with
  | nil => trivial
  | cons c r ih =>
    simp only [List.flatMap_cons, List.cons_append, List.nil_append, allOk]
    rw [fig_hi, fig_lo]
    exact ⟨⟨by omega, by omega⟩, ih⟩
theorem back (l : List UInt8) : (l.map (fun c => (c.toNat : Int))).map (fun n => UInt8.ofNat n.toNat) = l := by
  rw [List.map_map]
  have h : ∀ c ∈ l, ((fun n : Int => UInt8.ofNat n.toNat) ∘ fun c : UInt8 => (c.toNat : Int)) c = id c := fun c _ => by simp
  rw [List.map_congr_left h, List.map_id]
theorem dec_enc (s : ByteArray) : strOfNums (pairs (enc s).data.toList) = s := by
  rw [enc_list, pairs_enc]
  unfold strOfNums
  rw [back]
theorem enc_size (s : ByteArray) : (enc s).size = s.size * 2 := by
  unfold enc; rw [strOfNums_size, digs_length, len_s]

/-- a string is drawn. -/
def OneText (w : World) (e : Ending) (w' : World) : Prop := ∃ s : ByteArray, s.size ≤ 20001 ∧ e = .returned (.string s) ∧ Below w.heap.size w w'
theorem below_of {w w1 w2 : World} {g : Nat} (h : Below w.heap.size w w1) (hg : w.heap.size ≤ g) (k : w1.grownBy w2 (some g)) : Below w.heap.size w w2 :=
  h.grown k h.size (fun j hj => by injection hj; omega)

set_option maxRecDepth 100000 in
set_option maxHeartbeats 400000 in
theorem drawText (w : World) (A : Option Addr) (len cap : Nat) (h0 : Coded w w.heap.size A len) :
    Calls Tryd.prog 10 #[.slice A len cap] w (OneText w) := by
  have HC := Lib.hid h0
  clear h0
  go_enter Tryd.func10, Tryd.ntmps10
  go_wp2_with fail
  refine (new w A len cap HC.out).mono ?_
  rintro e w1 ⟨g, rfl, hc, hb1⟩
  have HC1 := Lib.hid hc
  have hg := hc.lt.1
  clear hc
  go_wp2_with fail
  refine (once w1 _ g A len cap 60 HC1.out).mono ?_
  rintro e w2 ⟨x, rfl, hc, hg2⟩
  have HC2 := Lib.hid hc
  have hb2 := below_of hb1 hg hg2
  clear hc
  cases x
  · go_wp2_with fail
    refine (below w2 _ g A len cap 30 HC2.out).mono ?_
    rintro e w3 ⟨y, hy, rfl, hc, hg3⟩
    obtain ⟨y0, y1⟩ := hy.2 (by omega)
    have HC3 := Lib.hid hc
    have hb3 := below_of hb2 hg hg3
    clear hc hy
    go_wp2_with fail
    refine (text w3 _ g A len cap y HC3.out (by omega)).mono ?_
    rintro e w4 ⟨s, hs, rfl, hc, hg4⟩
    have HS := Lib.hid (show s.size ≤ 20001 by omega)
    have hb4 := below_of hb3 hg hg4
    clear hc hs
    go_wp2
    go_ret
    exact ⟨s, HS.out, rfl, hb4⟩
  · go_wp2_with fail
    refine (below w2 _ g A len cap 2 HC2.out).mono ?_
    rintro e w3 ⟨y, hy, rfl, hc, hg3⟩
    obtain ⟨y0, y1⟩ := hy.2 (by omega)
    have hb3 := below_of hb2 hg hg3
    clear hc hy
    obtain ⟨k, rfl⟩ := Int.eq_ofNat_of_zero_le y0
    go_wp2_with fail
    have ek : (20000 : Int) + (k : Int) = ((20000 + k : Nat) : Int) := by omega
    rw [ek]
    refine (long w3 (20000 + k) 200 (by omega)).mono ?_
    rintro e w4 ⟨s, hs, rfl, hb4⟩
    have HS := Lib.hid (show s.size ≤ 20001 by omega)
    clear hs ek
    go_wp2
    go_ret
    exact ⟨s, HS.out, rfl, hb3.trans (hb4.mono hb3.size)⟩

theorem ten : numS 10 = ⟨#[49, 48]⟩ := by
  unfold numS Lib.itoa
  rw [if_neg (by decide), show (10 : Int).toNat = 10 from rfl, Lib.decDigits_two (by decide) (by decide)]
  rfl

set_option maxRecDepth 100000 in
set_option maxHeartbeats 400000 in
theorem hexText_law (A : Option Addr) (len cap : Nat) (zs : List Int) (w : World) (h0 : IsRow .u8 w A len cap zs) (ht : Pow w) :
    Calls Tryd.prog 3 #[.slice A len cap] w fun e w' => e = .returned (.bool true) ∧ Below w.heap.size w w' := by
  have hlen := row_len h0
  by_cases hbig : (1048576 : Int) < (len : Int)
  · go_enter Tryd.func3, Tryd.ntmps3
    go_wp2_with fail
    refine (big w A len cap hlen).mono ?_
    rintro e w' ⟨rfl, rfl⟩
    go_wp2
    go_ret
    exact ⟨rfl, Below.refl _ _⟩
  · have HC := Lib.hid (coded_of_row h0 (by omega))
    have HF := Lib.hid (fun (w1 : World) (hb : Below w.heap.size w w1) => impl_fmt 10 (by omega) (by omega) w1 (Joins.tab_stays gPow ht hb (Nat.le_refl _)))
    clear h0 ht
    go_enter Tryd.func3, Tryd.ntmps3
    go_wp2_with fail
    refine (big w A len cap hlen).mono ?_
    rintro e w' ⟨rfl, rfl⟩
    go_wp2_with fail
    refine (drawText w A len cap HC.out).mono ?_
    rintro e w1 ⟨s, hs, rfl, hb1⟩
    by_cases hl : 20000 < s.size
    · go_wp2_with fail
      refine (impl_long s w1 hl (by unfold maxLen; omega)).mono ?_
      rintro e w2 ⟨rfl, hb2⟩
      have hb := hb1.trans (hb2.mono hb1.size)
      clear hb2 hb1
      have hem : ByteArray.empty.toList.isEmpty = true := by rw [ByteArray.toList_eq]; rfl
      go_wp2_with fail
      refine (HF.out w2 hb).mono ?_
      rintro e w3 ⟨rfl, hb3⟩
      rw [ten]
      go_wp2
      go_ret
      exact ⟨rfl, hb.trans (hb3.mono hb.size)⟩
    · go_wp2_with fail
      refine (impl_short s w1 (by omega)).mono ?_
      rintro e w2 ⟨rfl, hb2⟩
      have hb := hb1.trans (hb2.mono hb1.size)
      clear hb2 hb1
      have HE := Lib.hid (dec_enc s)
      have HO := Lib.hid (show allOk (enc s).data.toList by rw [enc_list]; exact ok_enc _)
      have hes := enc_size s
      rw [show strOfNums (digs s.data.toList) = enc s from rfl]
      have HI := Lib.hid (fun W => impl_even (enc s) W (by omega) (by omega))
      generalize enc s = r at HE HO HI hes ⊢
      have HES := Lib.hid hes
      clear hes
      go_wp2_with fail
      refine (HI.out w2).mono ?_
      rintro e w3 ⟨hr, hb3⟩
      rcases hr with ⟨_, rfl⟩ | ⟨hno, rfl⟩
      · rw [HE.out]
        have hq := str_same s
        have hsz : ((r.size : Int) == 2 * (s.size : Int)) = true := by have := HES.out; simp; omega
        have hrs : r.size ≤ 65536 := by have := HES.out; omega
        go_wp2
        go_ret
        exact ⟨rfl, hb.trans (hb3.mono hb.size)⟩
      · exact absurd HO.out hno
end Go.Proofs.YtbfmodoofkgicaaDoor.HexT
