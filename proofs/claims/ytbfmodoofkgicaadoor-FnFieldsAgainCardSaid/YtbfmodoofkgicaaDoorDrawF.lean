/- The model's draw of a line: a string of a bounded length. -/
import Derived.Test.YtbfmodoofkgicaaDoorDrawS
namespace Go.Proofs.YtbfmodoofkgicaaDoor.Draw
set_option linter.unusedVariables false
open Go.RowKit Go.Proofs.YtbfmodoofkgicaaDoor.Base

set_option maxRecDepth 100000 in
set_option maxHeartbeats 400000 in
theorem pick (w : World) (B g : Nat) (A : Option Addr) (len cap : Nat) (G m c b : Nat) (f : Nat → ByteArray) (h0 : Cur w B g A len cap) (hm : 0 < m) (hm2 : m ≤ 65536) (hG : G ≠ g)
    (hcell : ∀ j, j < m → w.cell? ⟨G, j, none⟩ = some (.string (f j)) ∧ (f j).size ≤ b) :
    Calls Tryd.prog 34 #[.pointer (some ⟨g, 0, none⟩), .slice (some ⟨G, 0, none⟩) m c] w (DrewS (fun s => s.size ≤ b) w B g A len cap) := by
  have HC := Lib.hid h0
  have HF := Lib.hid hcell
  clear h0 hcell
  go_enter Tryd.func34, Tryd.ntmps34
  go_wp2_with fail
  refine (below w B g A len cap m HC.out).mono ?_
  rintro e w1 ⟨x, hx, rfl, hc, hg⟩
  have HC1 := Lib.hid hc
  obtain ⟨x0, x1⟩ := hx.2 (by omega)
  obtain ⟨j, rfl⟩ := Int.eq_ofNat_of_zero_le x0
  have hj : w1.cell? ⟨G, j, none⟩ = some (.string (f j)) := hg.cell (HF.out j (by omega)).1 (fun e => hG (by injection e))
  have HS := Lib.hid (HF.out j (by omega)).2
  generalize f j = t at hj HS
  clear hc hx x0
  go_wp2
  go_ret
  exact ⟨t, HS.out, rfl, HC1.out, hg⟩

/-- the cells of a row of strings that has just been made. -/
theorem row_strings (w : World) (l : List ByteArray) (t : TypeId) (b : Nat) (hb : ∀ x ∈ l, x.size ≤ b) : ∀ j, j < l.length → (w.alloc (.cells (l.map Value.string).toArray t)).cell? ⟨w.heap.size, j, none⟩ = some (.string (l.getD j ⟨#[]⟩)) ∧ (l.getD j ⟨#[]⟩).size ≤ b := fun j hj => by
  refine ⟨?_, ?_⟩
  · rw [cell_of_row _ _ j _ t (0, 0) (heap_alloc_new w _)]
    simp [List.getElem?_eq_getElem hj]
  · have e : l.getD j ⟨#[]⟩ = l[j] := by simp [List.getElem?_eq_getElem hj]
    rw [e]; exact hb _ (List.getElem_mem hj)

theorem cat_size (a b : ByteArray) : (a ++ b).size = a.size + b.size := ByteArray.size_append

set_option maxRecDepth 100000 in
set_option maxHeartbeats 1000000 in
theorem drawLine (w : World) (A : Option Addr) (len cap : Nat) (h0 : Coded w w.heap.size A len) :
    Calls Tryd.prog 16 #[.slice A len cap] w fun e w' => ∃ s : ByteArray, s.size ≤ 4000 ∧ e = .returned (.string s) ∧ Below w.heap.size w w' := by
  have HC := Lib.hid h0
  clear h0
  go_enter Tryd.func16, Tryd.ntmps16
  go_wp2_with fail
  refine (new w A len cap HC.out).mono ?_
  rintro e w1 ⟨g, rfl, hc, hb1⟩
  have HC1 := Lib.hid hc
  have hg := hc.lt.1
  clear hc
  go_wp2_with fail
  refine (below w1 _ g A len cap 9 HC1.out).mono ?_
  rintro e w2 ⟨y, hx, rfl, hc, hg2⟩
  obtain ⟨x0, x1⟩ := hx.2 (by omega)
  have HC2 := Lib.hid hc
  have hb2 : Below w.heap.size w w2 := hb1.grown hg2 hb1.size (fun j hj => by injection hj; omega)
  clear hc hx
  go_wp2_with fail
  refine (once w2 _ g A len cap 15 HC2.out).mono ?_
  rintro e w3 ⟨x, rfl, hc, hg3⟩
  have HC3 := Lib.hid hc
  have hb3 : Below w.heap.size w w3 := hb2.grown hg3 hb2.size (fun j hj => by injection hj; omega)
  clear hc
  clear hb2 hb1 hg2 hg3 HC2 HC1
  cases x
  · have n0 : 0 ≤ y := x0
    have n1 : y ≤ 25 := by omega
    obtain ⟨wS, hw, HCS, hbS⟩ : ∃ W : World, W = w3 ∧ Hid (Cur W w.heap.size g A len cap) ∧ Below w.heap.size w W := ⟨w3, rfl, HC3, hb3⟩
    subst hw
    clear x0 x1 HC3 hb3
    generalize y = n at n0 n1 ⊢
    go_wp2_with fail
    go_loopw [5, 6, 7] (fun s i _ wr => ∃ (k : Nat) (t : ByteArray), (k : Int) ≤ 25 ∧ i = .int .i64 k ∧ s = .string t ∧ t.size ≤ 8 * k ∧ Hid (Cur wr w.heap.size g A len cap) ∧ Below w.heap.size w wr) (fun _ i _ _ => (n - intOf i).toNat)
    case atStart => exact ⟨0, ⟨#[]⟩, by omega, rfl, rfl, Nat.le_refl 0, HCS, hbS⟩
    case round =>
      clear HCS hbS
      obtain ⟨k, t, hk, rfl, rfl, ht, HCr, hbr⟩ := hrel
      by_cases hlt : (k : Int) < n
      · by_cases hk0 : 0 < (k : Int)
        · skip
          go_wp2_with fail
          refine (below wr _ g A len cap 2 HCr.out).mono ?_
          rintro e w7 ⟨a, hx, rfl, hc, hg7⟩
          obtain ⟨a0, a1⟩ := hx.2 (by omega)
          have HC7 := Lib.hid hc
          have hb7 : Below w.heap.size w w7 := hbr.grown hg7 hbr.size (fun j hj => by injection hj; omega)
          clear hc hx hg7 hbr HCr
          go_wp2_with fail
          refine (below w7 _ g A len cap 3 HC7.out).mono ?_
          rintro e w8 ⟨b, hx, rfl, hc, hg8⟩
          obtain ⟨b0, b1⟩ := hx.2 (by omega)
          have HC8 := Lib.hid hc
          have hb8 : Below w.heap.size w w8 := hb7.grown hg8 hb7.size (fun j hj => by injection hj; omega)
          clear hc hx hg8 hb7 HC7
          obtain ⟨p0, p1⟩ : 0 ≤ a * b ∧ a * b ≤ 2 := by
            have ha : a = 0 ∨ a = 1 := by omega
            rcases ha with h | h
            · rw [h]; omega
            · rw [h]; omega
          go_wp2_with fail
          obtain ⟨pn, hpn⟩ := Int.eq_ofNat_of_zero_le p0
          rw [hpn, show (1 : Int) + (pn : Int) = ((1 + pn : Nat) : Int) from by omega]
          refine (long w8 (1 + pn) 32 (by omega)).mono ?_
          rintro e w9 ⟨sp, hsp, rfl, hb9⟩
          have HC9 := Lib.hid (HC8.out.grown (row := none) ⟨hb9.os, hb9.tape, hb9.output, hb9.size, fun i hi _ => hb9.block i hi⟩ (by simp) (fun k hk => by cases hk))
          have hb9' : Below w.heap.size w w9 := hb8.trans (hb9.mono hb8.size)
          have hcat := cat_size t sp
          have HK := Lib.hid (show (t ++ sp).size ≤ 8 * k + 3 by omega)
          have hsz : t.size + sp.size ≤ 9223372036854775807 := by omega
          clear hb8 hb9 HC8 hcat hpn hsp
          go_wp2_with fail
          obtain ⟨HCI, hbI⟩ : Hid (Cur w9 w.heap.size g A len cap) ∧ Below w.heap.size w w9 := ⟨HC9, hb9'⟩
          clear HC9 hb9'
          go_loopw [5, 7] (fun s m wr2 => ∃ (j : Nat) (u : ByteArray), (j : Int) ≤ 5 ∧ m = .int .i64 j ∧ s = .string u ∧ u.size ≤ 8 * k + 3 + j ∧ Hid (Cur wr2 w.heap.size g A len cap) ∧ Below w.heap.size w wr2) (fun _ m _ => (5 - intOf m).toNat)
          case atStart => exact ⟨0, _, by omega, rfl, rfl, HK.out, HCI, hbI⟩
          case round =>
            clear HCI hbI
            obtain ⟨j, u, hj, rfl, rfl, hu, HCj, hbj⟩ := hrel
            go_wp2_with fail
            refine (below _ _ g A len cap 5 HCj.out).mono ?_
            rintro e w5 ⟨v, hx, rfl, hc, hg5⟩
            obtain ⟨v0, v1⟩ := hx.2 (by omega)
            have HC5 := Lib.hid hc
            have hb5 : Below w.heap.size w w5 := hbj.grown hg5 hbj.size (fun j hj => by injection hj; omega)
            clear hc hx hg5 hbj HCj
            by_cases hjv : (j : Int) ≤ v
            · go_wp2_with fail
              refine (below w5 _ g A len cap 94 HC5.out).mono ?_
              rintro e w6 ⟨c, hx, rfl, hc, hg6⟩
              obtain ⟨c0, c1⟩ := hx.2 (by omega)
              have HC6 := Lib.hid hc
              have hb6 : Below w.heap.size w w6 := hb5.grown hg6 hb5.size (fun j hj => by injection hj; omega)
              clear hc hx hg6 hb5 HC5
              have hconv : ∀ (W : World) (x : Int), (convert 22 9 (.slice (some ⟨W.heap.size, 0, none⟩) 1 1)).run Tryd.prog (W.alloc (.cells #[.int .u8 x] 5)) = .ok (.string (strOfNums [x])) (W.alloc (.cells #[.int .u8 x] 5)) := fun W x =>
                run_convert_bytes_arg _ 22 5 Tryd.underlying22 Tryd.underlying5 W.heap.size 0 1 1 [x] rfl (fun i hi => by
                  obtain rfl : i = 0 := by omega
                  exact (cell_of_row _ _ 0 _ _ (0, 0) (heap_alloc_new W _)).trans rfl) 9 Tryd.underlying9
              have hone : (strOfNums [33 + c]).size = 1 := by rw [strOfNums_size]; rfl
              have hcat := cat_size u (strOfNums [33 + c])
              have HK := Lib.hid (show (u ++ strOfNums [33 + c]).size ≤ 8 * k + 3 + (j + 1) by omega)
              have hsz : u.size + (strOfNums [33 + c]).size ≤ 9223372036854775807 := by omega
              clear hone hcat
              go_wp2
              go_roundw
              case rel => exact ⟨j + 1, u ++ strOfNums [33 + c], by omega, by go_num, rfl, HK.out, Lib.hid (HC6.out.alloc _), hb6.alloc hb6.size _⟩
              case measure => (simp [intOf] <;> omega)
            · go_wp2
              go_roundw
              case rel => exact ⟨k + 1, u, by omega, by go_num, rfl, by omega, HC5, hb5⟩
              case measure => (simp [intOf] <;> omega)
        · go_wp2_with fail
          refine (once wr _ g A len cap 5 HCr.out).mono ?_
          rintro e wo ⟨x, rfl, hc, hgo⟩
          have HCo := Lib.hid hc
          have hbo : Below w.heap.size w wo := hbr.grown hgo hbr.size (fun j hj => by injection hj; omega)
          clear hc hgo hbr HCr
          cases x
          · go_wp2_with fail
            obtain ⟨HCI, hbI⟩ : Hid (Cur wo w.heap.size g A len cap) ∧ Below w.heap.size w wo := ⟨HCo, hbo⟩
            clear HCo hbo
            go_loopw [5, 7] (fun s m wr2 => ∃ (j : Nat) (u : ByteArray), (j : Int) ≤ 5 ∧ m = .int .i64 j ∧ s = .string u ∧ u.size ≤ 8 * k + 3 + j ∧ Hid (Cur wr2 w.heap.size g A len cap) ∧ Below w.heap.size w wr2) (fun _ m _ => (5 - intOf m).toNat)
            case atStart => exact ⟨0, _, by omega, rfl, rfl, by omega, HCI, hbI⟩
            case round =>
              clear HCI hbI
              obtain ⟨j, u, hj, rfl, rfl, hu, HCj, hbj⟩ := hrel
              go_wp2_with fail
              refine (below _ _ g A len cap 5 HCj.out).mono ?_
              rintro e w5 ⟨v, hx, rfl, hc, hg5⟩
              obtain ⟨v0, v1⟩ := hx.2 (by omega)
              have HC5 := Lib.hid hc
              have hb5 : Below w.heap.size w w5 := hbj.grown hg5 hbj.size (fun j hj => by injection hj; omega)
              clear hc hx hg5 hbj HCj
              by_cases hjv : (j : Int) ≤ v
              · go_wp2_with fail
                refine (below w5 _ g A len cap 94 HC5.out).mono ?_
                rintro e w6 ⟨c, hx, rfl, hc, hg6⟩
                obtain ⟨c0, c1⟩ := hx.2 (by omega)
                have HC6 := Lib.hid hc
                have hb6 : Below w.heap.size w w6 := hb5.grown hg6 hb5.size (fun j hj => by injection hj; omega)
                clear hc hx hg6 hb5 HC5
                have hconv : ∀ (W : World) (x : Int), (convert 22 9 (.slice (some ⟨W.heap.size, 0, none⟩) 1 1)).run Tryd.prog (W.alloc (.cells #[.int .u8 x] 5)) = .ok (.string (strOfNums [x])) (W.alloc (.cells #[.int .u8 x] 5)) := fun W x =>
                  run_convert_bytes_arg _ 22 5 Tryd.underlying22 Tryd.underlying5 W.heap.size 0 1 1 [x] rfl (fun i hi => by
                    obtain rfl : i = 0 := by omega
                    exact (cell_of_row _ _ 0 _ _ (0, 0) (heap_alloc_new W _)).trans rfl) 9 Tryd.underlying9
                have hone : (strOfNums [33 + c]).size = 1 := by rw [strOfNums_size]; rfl
                have hcat := cat_size u (strOfNums [33 + c])
                have HK := Lib.hid (show (u ++ strOfNums [33 + c]).size ≤ 8 * k + 3 + (j + 1) by omega)
                have hsz : u.size + (strOfNums [33 + c]).size ≤ 9223372036854775807 := by omega
                clear hone hcat
                go_wp2
                go_roundw
                case rel => exact ⟨j + 1, u ++ strOfNums [33 + c], by omega, by go_num, rfl, HK.out, Lib.hid (HC6.out.alloc _), hb6.alloc hb6.size _⟩
                case measure => (simp [intOf] <;> omega)
              · go_wp2
                go_roundw
                case rel => exact ⟨k + 1, u, by omega, by go_num, rfl, by omega, HC5, hb5⟩
                case measure => (simp [intOf] <;> omega)
          · skip
            go_wp2_with fail
            refine (below wo _ g A len cap 2 HCo.out).mono ?_
            rintro e w7 ⟨a, hx, rfl, hc, hg7⟩
            obtain ⟨a0, a1⟩ := hx.2 (by omega)
            have HC7 := Lib.hid hc
            have hb7 : Below w.heap.size w w7 := hbo.grown hg7 hbo.size (fun j hj => by injection hj; omega)
            clear hc hx hg7 hbo HCo
            go_wp2_with fail
            refine (below w7 _ g A len cap 3 HC7.out).mono ?_
            rintro e w8 ⟨b, hx, rfl, hc, hg8⟩
            obtain ⟨b0, b1⟩ := hx.2 (by omega)
            have HC8 := Lib.hid hc
            have hb8 : Below w.heap.size w w8 := hb7.grown hg8 hb7.size (fun j hj => by injection hj; omega)
            clear hc hx hg8 hb7 HC7
            obtain ⟨p0, p1⟩ : 0 ≤ a * b ∧ a * b ≤ 2 := by
              have ha : a = 0 ∨ a = 1 := by omega
              rcases ha with h | h
              · rw [h]; omega
              · rw [h]; omega
            go_wp2_with fail
            obtain ⟨pn, hpn⟩ := Int.eq_ofNat_of_zero_le p0
            rw [hpn, show (1 : Int) + (pn : Int) = ((1 + pn : Nat) : Int) from by omega]
            refine (long w8 (1 + pn) 32 (by omega)).mono ?_
            rintro e w9 ⟨sp, hsp, rfl, hb9⟩
            have HC9 := Lib.hid (HC8.out.grown (row := none) ⟨hb9.os, hb9.tape, hb9.output, hb9.size, fun i hi _ => hb9.block i hi⟩ (by simp) (fun k hk => by cases hk))
            have hb9' : Below w.heap.size w w9 := hb8.trans (hb9.mono hb8.size)
            have hcat := cat_size t sp
            have HK := Lib.hid (show (t ++ sp).size ≤ 8 * k + 3 by omega)
            have hsz : t.size + sp.size ≤ 9223372036854775807 := by omega
            clear hb8 hb9 HC8 hcat hpn hsp
            go_wp2_with fail
            obtain ⟨HCI, hbI⟩ : Hid (Cur w9 w.heap.size g A len cap) ∧ Below w.heap.size w w9 := ⟨HC9, hb9'⟩
            clear HC9 hb9'
            go_loopw [5, 7] (fun s m wr2 => ∃ (j : Nat) (u : ByteArray), (j : Int) ≤ 5 ∧ m = .int .i64 j ∧ s = .string u ∧ u.size ≤ 8 * k + 3 + j ∧ Hid (Cur wr2 w.heap.size g A len cap) ∧ Below w.heap.size w wr2) (fun _ m _ => (5 - intOf m).toNat)
            case atStart => exact ⟨0, _, by omega, rfl, rfl, HK.out, HCI, hbI⟩
            case round =>
              clear HCI hbI
              obtain ⟨j, u, hj, rfl, rfl, hu, HCj, hbj⟩ := hrel
              go_wp2_with fail
              refine (below _ _ g A len cap 5 HCj.out).mono ?_
              rintro e w5 ⟨v, hx, rfl, hc, hg5⟩
              obtain ⟨v0, v1⟩ := hx.2 (by omega)
              have HC5 := Lib.hid hc
              have hb5 : Below w.heap.size w w5 := hbj.grown hg5 hbj.size (fun j hj => by injection hj; omega)
              clear hc hx hg5 hbj HCj
              by_cases hjv : (j : Int) ≤ v
              · go_wp2_with fail
                refine (below w5 _ g A len cap 94 HC5.out).mono ?_
                rintro e w6 ⟨c, hx, rfl, hc, hg6⟩
                obtain ⟨c0, c1⟩ := hx.2 (by omega)
                have HC6 := Lib.hid hc
                have hb6 : Below w.heap.size w w6 := hb5.grown hg6 hb5.size (fun j hj => by injection hj; omega)
                clear hc hx hg6 hb5 HC5
                have hconv : ∀ (W : World) (x : Int), (convert 22 9 (.slice (some ⟨W.heap.size, 0, none⟩) 1 1)).run Tryd.prog (W.alloc (.cells #[.int .u8 x] 5)) = .ok (.string (strOfNums [x])) (W.alloc (.cells #[.int .u8 x] 5)) := fun W x =>
                  run_convert_bytes_arg _ 22 5 Tryd.underlying22 Tryd.underlying5 W.heap.size 0 1 1 [x] rfl (fun i hi => by
                    obtain rfl : i = 0 := by omega
                    exact (cell_of_row _ _ 0 _ _ (0, 0) (heap_alloc_new W _)).trans rfl) 9 Tryd.underlying9
                have hone : (strOfNums [33 + c]).size = 1 := by rw [strOfNums_size]; rfl
                have hcat := cat_size u (strOfNums [33 + c])
                have HK := Lib.hid (show (u ++ strOfNums [33 + c]).size ≤ 8 * k + 3 + (j + 1) by omega)
                have hsz : u.size + (strOfNums [33 + c]).size ≤ 9223372036854775807 := by omega
                clear hone hcat
                go_wp2
                go_roundw
                case rel => exact ⟨j + 1, u ++ strOfNums [33 + c], by omega, by go_num, rfl, HK.out, Lib.hid (HC6.out.alloc _), hb6.alloc hb6.size _⟩
                case measure => (simp [intOf] <;> omega)
              · go_wp2
                go_roundw
                case rel => exact ⟨k + 1, u, by omega, by go_num, rfl, by omega, HC5, hb5⟩
                case measure => (simp [intOf] <;> omega)
      · go_wp2_with fail
        refine (below wr _ g A len cap 12 HCr.out).mono ?_
        rintro e wa ⟨d, hx, rfl, hc, hga⟩
        obtain ⟨d0, d1⟩ := hx.2 (by omega)
        have HCa := Lib.hid hc
        have hba : Below w.heap.size w wa := hbr.grown hga hbr.size (fun j hj => by injection hj; omega)
        clear hc hx hga hbr HCr
        have ht200 : t.size ≤ 200 := by omega
        by_cases hd0 : d = 0
        · subst hd0
          go_wp2_with fail
          refine (pick _ _ g A len cap wa.heap.size 6 6 2 _ (HCa.out.alloc _) (by omega) (by omega) (by have := HCa.out.lt; omega) (row_strings wa [⟨#[32]⟩, ⟨#[32, 32]⟩, ⟨#[9]⟩, ⟨#[10]⟩, ⟨#[127]⟩, ⟨#[233]⟩] 9 2 (by decide))).mono ?_
          rintro e wb ⟨u, hu, rfl, hc, hgb⟩
          have hbb : Below w.heap.size w wb := (hba.alloc hba.size _).grown hgb (by have := hba.size; simp; omega) (fun j hj => by injection hj; omega)
          have hcat := cat_size t u
          have HK := Lib.hid (show (t ++ u).size ≤ 4000 by have : u.size ≤ 2 := hu; omega)
          have hsz : t.size + u.size ≤ 9223372036854775807 := by have : u.size ≤ 2 := hu; omega
          clear hcat hc hgb hu
          go_wp2
          go_ret
          exact ⟨t ++ u, HK.out, rfl, hbb⟩
        · by_cases hd1 : d = 1
          · subst hd1
            go_wp2_with fail
            refine (below wa _ g A len cap 2 HCa.out).mono ?_
            rintro e wb ⟨a, hx, rfl, hc, hgb⟩
            obtain ⟨a0, a1⟩ := hx.2 (by omega)
            have hbb : Below w.heap.size w wb := hba.grown hgb hba.size (fun j hj => by injection hj; omega)
            clear hc hx hgb hba HCa
            obtain ⟨pn, hpn⟩ := Int.eq_ofNat_of_zero_le a0
            subst hpn
            go_wp2_with fail
            rw [show (600 : Int) - (t.size : Int) + (pn : Int) = ((600 - t.size + pn : Nat) : Int) from by omega]
            refine (long wb (600 - t.size + pn) 32 (by omega)).mono ?_
            rintro e wc ⟨u, hu, rfl, hbc⟩
            have hbc' : Below w.heap.size w wc := hbb.trans (hbc.mono hbb.size)
            have hcat := cat_size t u
            have HK := Lib.hid (show (t ++ u).size ≤ 4000 by omega)
            have hsz : t.size + u.size ≤ 9223372036854775807 := by omega
            clear hcat hu hbc hbb
            go_wp2
            go_ret
            exact ⟨t ++ u, HK.out, rfl, hbc'⟩
          · go_wp2
            go_ret
            exact ⟨t, by omega, rfl, hba⟩
  · go_wp2_with fail
    refine (below w3 _ g A len cap 2 HC3.out).mono ?_
    rintro e w4 ⟨z, hx, rfl, hc, hg4⟩
    obtain ⟨z0, z1⟩ := hx.2 (by omega)
    have HC4 := Lib.hid hc
    have hb4 : Below w.heap.size w w4 := hb3.grown hg4 hb3.size (fun j hj => by injection hj; omega)
    clear hc hx hg4
    have n0 : 0 ≤ 24 + z := by omega
    have n1 : 24 + z ≤ 25 := by omega
    obtain ⟨wS, hw, HCS, hbS⟩ : ∃ W : World, W = w4 ∧ Hid (Cur W w.heap.size g A len cap) ∧ Below w.heap.size w W := ⟨w4, rfl, HC4, hb4⟩
    subst hw
    clear x0 x1 z0 z1 HC4 hb4 HC3 hb3
    go_wp2_with fail
    go_loopw [5, 6, 7] (fun s i _ wr => ∃ (k : Nat) (t : ByteArray), (k : Int) ≤ 25 ∧ i = .int .i64 k ∧ s = .string t ∧ t.size ≤ 8 * k ∧ Hid (Cur wr w.heap.size g A len cap) ∧ Below w.heap.size w wr) (fun _ i _ _ => ((24 + z) - intOf i).toNat)
    case atStart => exact ⟨0, ⟨#[]⟩, by omega, rfl, rfl, Nat.le_refl 0, HCS, hbS⟩
    case round =>
      clear HCS hbS
      obtain ⟨k, t, hk, rfl, rfl, ht, HCr, hbr⟩ := hrel
      by_cases hlt : (k : Int) < (24 + z)
      · by_cases hk0 : 0 < (k : Int)
        · skip
          go_wp2_with fail
          refine (below wr _ g A len cap 2 HCr.out).mono ?_
          rintro e w7 ⟨a, hx, rfl, hc, hg7⟩
          obtain ⟨a0, a1⟩ := hx.2 (by omega)
          have HC7 := Lib.hid hc
          have hb7 : Below w.heap.size w w7 := hbr.grown hg7 hbr.size (fun j hj => by injection hj; omega)
          clear hc hx hg7 hbr HCr
          go_wp2_with fail
          refine (below w7 _ g A len cap 3 HC7.out).mono ?_
          rintro e w8 ⟨b, hx, rfl, hc, hg8⟩
          obtain ⟨b0, b1⟩ := hx.2 (by omega)
          have HC8 := Lib.hid hc
          have hb8 : Below w.heap.size w w8 := hb7.grown hg8 hb7.size (fun j hj => by injection hj; omega)
          clear hc hx hg8 hb7 HC7
          obtain ⟨p0, p1⟩ : 0 ≤ a * b ∧ a * b ≤ 2 := by
            have ha : a = 0 ∨ a = 1 := by omega
            rcases ha with h | h
            · rw [h]; omega
            · rw [h]; omega
          go_wp2_with fail
          obtain ⟨pn, hpn⟩ := Int.eq_ofNat_of_zero_le p0
          rw [hpn, show (1 : Int) + (pn : Int) = ((1 + pn : Nat) : Int) from by omega]
          refine (long w8 (1 + pn) 32 (by omega)).mono ?_
          rintro e w9 ⟨sp, hsp, rfl, hb9⟩
          have HC9 := Lib.hid (HC8.out.grown (row := none) ⟨hb9.os, hb9.tape, hb9.output, hb9.size, fun i hi _ => hb9.block i hi⟩ (by simp) (fun k hk => by cases hk))
          have hb9' : Below w.heap.size w w9 := hb8.trans (hb9.mono hb8.size)
          have hcat := cat_size t sp
          have HK := Lib.hid (show (t ++ sp).size ≤ 8 * k + 3 by omega)
          have hsz : t.size + sp.size ≤ 9223372036854775807 := by omega
          clear hb8 hb9 HC8 hcat hpn hsp
          go_wp2_with fail
          obtain ⟨HCI, hbI⟩ : Hid (Cur w9 w.heap.size g A len cap) ∧ Below w.heap.size w w9 := ⟨HC9, hb9'⟩
          clear HC9 hb9'
          go_loopw [5, 7] (fun s m wr2 => ∃ (j : Nat) (u : ByteArray), (j : Int) ≤ 5 ∧ m = .int .i64 j ∧ s = .string u ∧ u.size ≤ 8 * k + 3 + j ∧ Hid (Cur wr2 w.heap.size g A len cap) ∧ Below w.heap.size w wr2) (fun _ m _ => (5 - intOf m).toNat)
          case atStart => exact ⟨0, _, by omega, rfl, rfl, HK.out, HCI, hbI⟩
          case round =>
            clear HCI hbI
            obtain ⟨j, u, hj, rfl, rfl, hu, HCj, hbj⟩ := hrel
            go_wp2_with fail
            refine (below _ _ g A len cap 5 HCj.out).mono ?_
            rintro e w5 ⟨v, hx, rfl, hc, hg5⟩
            obtain ⟨v0, v1⟩ := hx.2 (by omega)
            have HC5 := Lib.hid hc
            have hb5 : Below w.heap.size w w5 := hbj.grown hg5 hbj.size (fun j hj => by injection hj; omega)
            clear hc hx hg5 hbj HCj
            by_cases hjv : (j : Int) ≤ v
            · go_wp2_with fail
              refine (below w5 _ g A len cap 94 HC5.out).mono ?_
              rintro e w6 ⟨c, hx, rfl, hc, hg6⟩
              obtain ⟨c0, c1⟩ := hx.2 (by omega)
              have HC6 := Lib.hid hc
              have hb6 : Below w.heap.size w w6 := hb5.grown hg6 hb5.size (fun j hj => by injection hj; omega)
              clear hc hx hg6 hb5 HC5
              have hconv : ∀ (W : World) (x : Int), (convert 22 9 (.slice (some ⟨W.heap.size, 0, none⟩) 1 1)).run Tryd.prog (W.alloc (.cells #[.int .u8 x] 5)) = .ok (.string (strOfNums [x])) (W.alloc (.cells #[.int .u8 x] 5)) := fun W x =>
                run_convert_bytes_arg _ 22 5 Tryd.underlying22 Tryd.underlying5 W.heap.size 0 1 1 [x] rfl (fun i hi => by
                  obtain rfl : i = 0 := by omega
                  exact (cell_of_row _ _ 0 _ _ (0, 0) (heap_alloc_new W _)).trans rfl) 9 Tryd.underlying9
              have hone : (strOfNums [33 + c]).size = 1 := by rw [strOfNums_size]; rfl
              have hcat := cat_size u (strOfNums [33 + c])
              have HK := Lib.hid (show (u ++ strOfNums [33 + c]).size ≤ 8 * k + 3 + (j + 1) by omega)
              have hsz : u.size + (strOfNums [33 + c]).size ≤ 9223372036854775807 := by omega
              clear hone hcat
              go_wp2
              go_roundw
              case rel => exact ⟨j + 1, u ++ strOfNums [33 + c], by omega, by go_num, rfl, HK.out, Lib.hid (HC6.out.alloc _), hb6.alloc hb6.size _⟩
              case measure => (simp [intOf] <;> omega)
            · go_wp2
              go_roundw
              case rel => exact ⟨k + 1, u, by omega, by go_num, rfl, by omega, HC5, hb5⟩
              case measure => (simp [intOf] <;> omega)
        · go_wp2_with fail
          refine (once wr _ g A len cap 5 HCr.out).mono ?_
          rintro e wo ⟨x, rfl, hc, hgo⟩
          have HCo := Lib.hid hc
          have hbo : Below w.heap.size w wo := hbr.grown hgo hbr.size (fun j hj => by injection hj; omega)
          clear hc hgo hbr HCr
          cases x
          · go_wp2_with fail
            obtain ⟨HCI, hbI⟩ : Hid (Cur wo w.heap.size g A len cap) ∧ Below w.heap.size w wo := ⟨HCo, hbo⟩
            clear HCo hbo
            go_loopw [5, 7] (fun s m wr2 => ∃ (j : Nat) (u : ByteArray), (j : Int) ≤ 5 ∧ m = .int .i64 j ∧ s = .string u ∧ u.size ≤ 8 * k + 3 + j ∧ Hid (Cur wr2 w.heap.size g A len cap) ∧ Below w.heap.size w wr2) (fun _ m _ => (5 - intOf m).toNat)
            case atStart => exact ⟨0, _, by omega, rfl, rfl, by omega, HCI, hbI⟩
            case round =>
              clear HCI hbI
              obtain ⟨j, u, hj, rfl, rfl, hu, HCj, hbj⟩ := hrel
              go_wp2_with fail
              refine (below _ _ g A len cap 5 HCj.out).mono ?_
              rintro e w5 ⟨v, hx, rfl, hc, hg5⟩
              obtain ⟨v0, v1⟩ := hx.2 (by omega)
              have HC5 := Lib.hid hc
              have hb5 : Below w.heap.size w w5 := hbj.grown hg5 hbj.size (fun j hj => by injection hj; omega)
              clear hc hx hg5 hbj HCj
              by_cases hjv : (j : Int) ≤ v
              · go_wp2_with fail
                refine (below w5 _ g A len cap 94 HC5.out).mono ?_
                rintro e w6 ⟨c, hx, rfl, hc, hg6⟩
                obtain ⟨c0, c1⟩ := hx.2 (by omega)
                have HC6 := Lib.hid hc
                have hb6 : Below w.heap.size w w6 := hb5.grown hg6 hb5.size (fun j hj => by injection hj; omega)
                clear hc hx hg6 hb5 HC5
                have hconv : ∀ (W : World) (x : Int), (convert 22 9 (.slice (some ⟨W.heap.size, 0, none⟩) 1 1)).run Tryd.prog (W.alloc (.cells #[.int .u8 x] 5)) = .ok (.string (strOfNums [x])) (W.alloc (.cells #[.int .u8 x] 5)) := fun W x =>
                  run_convert_bytes_arg _ 22 5 Tryd.underlying22 Tryd.underlying5 W.heap.size 0 1 1 [x] rfl (fun i hi => by
                    obtain rfl : i = 0 := by omega
                    exact (cell_of_row _ _ 0 _ _ (0, 0) (heap_alloc_new W _)).trans rfl) 9 Tryd.underlying9
                have hone : (strOfNums [33 + c]).size = 1 := by rw [strOfNums_size]; rfl
                have hcat := cat_size u (strOfNums [33 + c])
                have HK := Lib.hid (show (u ++ strOfNums [33 + c]).size ≤ 8 * k + 3 + (j + 1) by omega)
                have hsz : u.size + (strOfNums [33 + c]).size ≤ 9223372036854775807 := by omega
                clear hone hcat
                go_wp2
                go_roundw
                case rel => exact ⟨j + 1, u ++ strOfNums [33 + c], by omega, by go_num, rfl, HK.out, Lib.hid (HC6.out.alloc _), hb6.alloc hb6.size _⟩
                case measure => (simp [intOf] <;> omega)
              · go_wp2
                go_roundw
                case rel => exact ⟨k + 1, u, by omega, by go_num, rfl, by omega, HC5, hb5⟩
                case measure => (simp [intOf] <;> omega)
          · skip
            go_wp2_with fail
            refine (below wo _ g A len cap 2 HCo.out).mono ?_
            rintro e w7 ⟨a, hx, rfl, hc, hg7⟩
            obtain ⟨a0, a1⟩ := hx.2 (by omega)
            have HC7 := Lib.hid hc
            have hb7 : Below w.heap.size w w7 := hbo.grown hg7 hbo.size (fun j hj => by injection hj; omega)
            clear hc hx hg7 hbo HCo
            go_wp2_with fail
            refine (below w7 _ g A len cap 3 HC7.out).mono ?_
            rintro e w8 ⟨b, hx, rfl, hc, hg8⟩
            obtain ⟨b0, b1⟩ := hx.2 (by omega)
            have HC8 := Lib.hid hc
            have hb8 : Below w.heap.size w w8 := hb7.grown hg8 hb7.size (fun j hj => by injection hj; omega)
            clear hc hx hg8 hb7 HC7
            obtain ⟨p0, p1⟩ : 0 ≤ a * b ∧ a * b ≤ 2 := by
              have ha : a = 0 ∨ a = 1 := by omega
              rcases ha with h | h
              · rw [h]; omega
              · rw [h]; omega
            go_wp2_with fail
            obtain ⟨pn, hpn⟩ := Int.eq_ofNat_of_zero_le p0
            rw [hpn, show (1 : Int) + (pn : Int) = ((1 + pn : Nat) : Int) from by omega]
            refine (long w8 (1 + pn) 32 (by omega)).mono ?_
            rintro e w9 ⟨sp, hsp, rfl, hb9⟩
            have HC9 := Lib.hid (HC8.out.grown (row := none) ⟨hb9.os, hb9.tape, hb9.output, hb9.size, fun i hi _ => hb9.block i hi⟩ (by simp) (fun k hk => by cases hk))
            have hb9' : Below w.heap.size w w9 := hb8.trans (hb9.mono hb8.size)
            have hcat := cat_size t sp
            have HK := Lib.hid (show (t ++ sp).size ≤ 8 * k + 3 by omega)
            have hsz : t.size + sp.size ≤ 9223372036854775807 := by omega
            clear hb8 hb9 HC8 hcat hpn hsp
            go_wp2_with fail
            obtain ⟨HCI, hbI⟩ : Hid (Cur w9 w.heap.size g A len cap) ∧ Below w.heap.size w w9 := ⟨HC9, hb9'⟩
            clear HC9 hb9'
            go_loopw [5, 7] (fun s m wr2 => ∃ (j : Nat) (u : ByteArray), (j : Int) ≤ 5 ∧ m = .int .i64 j ∧ s = .string u ∧ u.size ≤ 8 * k + 3 + j ∧ Hid (Cur wr2 w.heap.size g A len cap) ∧ Below w.heap.size w wr2) (fun _ m _ => (5 - intOf m).toNat)
            case atStart => exact ⟨0, _, by omega, rfl, rfl, HK.out, HCI, hbI⟩
            case round =>
              clear HCI hbI
              obtain ⟨j, u, hj, rfl, rfl, hu, HCj, hbj⟩ := hrel
              go_wp2_with fail
              refine (below _ _ g A len cap 5 HCj.out).mono ?_
              rintro e w5 ⟨v, hx, rfl, hc, hg5⟩
              obtain ⟨v0, v1⟩ := hx.2 (by omega)
              have HC5 := Lib.hid hc
              have hb5 : Below w.heap.size w w5 := hbj.grown hg5 hbj.size (fun j hj => by injection hj; omega)
              clear hc hx hg5 hbj HCj
              by_cases hjv : (j : Int) ≤ v
              · go_wp2_with fail
                refine (below w5 _ g A len cap 94 HC5.out).mono ?_
                rintro e w6 ⟨c, hx, rfl, hc, hg6⟩
                obtain ⟨c0, c1⟩ := hx.2 (by omega)
                have HC6 := Lib.hid hc
                have hb6 : Below w.heap.size w w6 := hb5.grown hg6 hb5.size (fun j hj => by injection hj; omega)
                clear hc hx hg6 hb5 HC5
                have hconv : ∀ (W : World) (x : Int), (convert 22 9 (.slice (some ⟨W.heap.size, 0, none⟩) 1 1)).run Tryd.prog (W.alloc (.cells #[.int .u8 x] 5)) = .ok (.string (strOfNums [x])) (W.alloc (.cells #[.int .u8 x] 5)) := fun W x =>
                  run_convert_bytes_arg _ 22 5 Tryd.underlying22 Tryd.underlying5 W.heap.size 0 1 1 [x] rfl (fun i hi => by
                    obtain rfl : i = 0 := by omega
                    exact (cell_of_row _ _ 0 _ _ (0, 0) (heap_alloc_new W _)).trans rfl) 9 Tryd.underlying9
                have hone : (strOfNums [33 + c]).size = 1 := by rw [strOfNums_size]; rfl
                have hcat := cat_size u (strOfNums [33 + c])
                have HK := Lib.hid (show (u ++ strOfNums [33 + c]).size ≤ 8 * k + 3 + (j + 1) by omega)
                have hsz : u.size + (strOfNums [33 + c]).size ≤ 9223372036854775807 := by omega
                clear hone hcat
                go_wp2
                go_roundw
                case rel => exact ⟨j + 1, u ++ strOfNums [33 + c], by omega, by go_num, rfl, HK.out, Lib.hid (HC6.out.alloc _), hb6.alloc hb6.size _⟩
                case measure => (simp [intOf] <;> omega)
              · go_wp2
                go_roundw
                case rel => exact ⟨k + 1, u, by omega, by go_num, rfl, by omega, HC5, hb5⟩
                case measure => (simp [intOf] <;> omega)
      · go_wp2_with fail
        refine (below wr _ g A len cap 12 HCr.out).mono ?_
        rintro e wa ⟨d, hx, rfl, hc, hga⟩
        obtain ⟨d0, d1⟩ := hx.2 (by omega)
        have HCa := Lib.hid hc
        have hba : Below w.heap.size w wa := hbr.grown hga hbr.size (fun j hj => by injection hj; omega)
        clear hc hx hga hbr HCr
        have ht200 : t.size ≤ 200 := by omega
        by_cases hd0 : d = 0
        · subst hd0
          go_wp2_with fail
          refine (pick _ _ g A len cap wa.heap.size 6 6 2 _ (HCa.out.alloc _) (by omega) (by omega) (by have := HCa.out.lt; omega) (row_strings wa [⟨#[32]⟩, ⟨#[32, 32]⟩, ⟨#[9]⟩, ⟨#[10]⟩, ⟨#[127]⟩, ⟨#[233]⟩] 9 2 (by decide))).mono ?_
          rintro e wb ⟨u, hu, rfl, hc, hgb⟩
          have hbb : Below w.heap.size w wb := (hba.alloc hba.size _).grown hgb (by have := hba.size; simp; omega) (fun j hj => by injection hj; omega)
          have hcat := cat_size t u
          have HK := Lib.hid (show (t ++ u).size ≤ 4000 by have : u.size ≤ 2 := hu; omega)
          have hsz : t.size + u.size ≤ 9223372036854775807 := by have : u.size ≤ 2 := hu; omega
          clear hcat hc hgb hu
          go_wp2
          go_ret
          exact ⟨t ++ u, HK.out, rfl, hbb⟩
        · by_cases hd1 : d = 1
          · subst hd1
            go_wp2_with fail
            refine (below wa _ g A len cap 2 HCa.out).mono ?_
            rintro e wb ⟨a, hx, rfl, hc, hgb⟩
            obtain ⟨a0, a1⟩ := hx.2 (by omega)
            have hbb : Below w.heap.size w wb := hba.grown hgb hba.size (fun j hj => by injection hj; omega)
            clear hc hx hgb hba HCa
            obtain ⟨pn, hpn⟩ := Int.eq_ofNat_of_zero_le a0
            subst hpn
            go_wp2_with fail
            rw [show (600 : Int) - (t.size : Int) + (pn : Int) = ((600 - t.size + pn : Nat) : Int) from by omega]
            refine (long wb (600 - t.size + pn) 32 (by omega)).mono ?_
            rintro e wc ⟨u, hu, rfl, hbc⟩
            have hbc' : Below w.heap.size w wc := hbb.trans (hbc.mono hbb.size)
            have hcat := cat_size t u
            have HK := Lib.hid (show (t ++ u).size ≤ 4000 by omega)
            have hsz : t.size + u.size ≤ 9223372036854775807 := by omega
            clear hcat hu hbc hbb
            go_wp2
            go_ret
            exact ⟨t ++ u, HK.out, rfl, hbc'⟩
          · go_wp2
            go_ret
            exact ⟨t, by omega, rfl, hba⟩
end Go.Proofs.YtbfmodoofkgicaaDoor.Draw
