/- EndI in one text. -/
import Derived.Test.YtmajllgfmclcoaaGreatDoorMd27
import Derived.Test.YtmajllgfmclcoaaGreatDoorMd32
set_option linter.unusedVariables false
set_option linter.unusedSimpArgs false
set_option maxRecDepth 100000
namespace Go.Proofs.YtmajllgfmclcoaaGreatDoor.Jn
open Go.RowKit Base Dms Til Hgt Dss Sets Go.Joins
open Flo (simB iIsSimple sIsSimple)
open Lst (listR listR_small listR_half halfR_le iListTilings sListTilings)
open Ext (halfR SSP)
open Reg (ints intInfo RowB RowIn rowB_own own_below own_base sCountCells countR)
open Cor (iHeightsOf)
theorem ints_snoc3 (h : List Int) (y : Int) : ints (h ++ [y]) = ints h ++ [.int .i64 y] := by unfold Reg.ints; simp
set_option maxHeartbeats 1000000 in
theorem iIdxI (w : World) (A : Option Addr) (n cap B : Nat) (xs : List Int) (hx : xs.length = n) (hn : (n : Int) ≤ 1048576) (h : RowB w B A xs) (v : Int) (hex : v ∈ xs) :
  Calls Tryz.prog 54 #[.slice A n cap, .int .i64 v] w (fun e w' => ∃ k : Nat, e = .returned (.int .i64 k) ∧ k < n ∧ xs[k]? = some v ∧ w = w') := by
 obtain ⟨b, off, hA, hc⟩ := h
 have HA := Lh hA
 have HC := Lh hc
 have HL := Lh hx
 have HX := Lh hex
 clear hA hc hx hex
 go_enter Tryz.func54, Tryz.ntmps54
 go_wp2_with fail
 go_loopw [5, 8] (fun _ i wr => ∃ k : Nat, k ≤ n ∧ i = .int .i64 k ∧ Hid (w = wr) ∧ Hid (∀ j, j < k → xs[j]? ≠ some v)) (fun _ i _ => n - (intOf i).toNat)
 case atStart => exact ⟨0, Nat.zero_le _, rfl, by first | exact Lh rfl | exact Lh trivial, Lh (fun j hj => by omega)⟩
 case round =>
  obtain ⟨k, hk, rfl, HW, HN⟩ := hrel
  obtain rfl := HW.out
  clear HW
  by_cases hlt : k < n
  ·have hltI : (k : Int) < (n : Int) := by omega
   have hkL : k < xs.length := by rw [HL.out]; exact hlt
   obtain ⟨rfl, hbB⟩ := HA.out (by omega)
   have hg := List.getElem?_eq_getElem hkL
   have c0 := HC.out k xs[k] hg
   generalize xs[k] = t at c0 hg
   by_cases hq : v = t
   ·subst hq
    have hqq : (v == v) = true := by simp
    have HE := Lh hg
    clear hg
    go_wp2
    go_ret
    exact ⟨k, rfl, hlt, HE.out, rfl⟩
   ·have hqq : (v == t) = false := by simpa using hq
    have HN2 := Lh (show ∀ j, j < k + 1 → xs[j]? ≠ some v from fun j hj e => by
     by_cases q : j = k
     ·subst q; rw [hg] at e; injection e with e; exact hq e.symm
     ·exact HN.out j (by omega) e)
    clear hg hq HN
    go_wp2
    go_roundw
    case rel => exact ⟨k + 1, by omega, by go_num, by first | exact Lh rfl | exact Lh trivial, HN2⟩
    case measure => (simp [intOf] <;> omega)
  ·exfalso
   obtain ⟨j, hj⟩ := List.getElem?_of_mem HX.out
   have := (List.getElem?_eq_some_iff.1 hj).1
   exact HN.out j (by have := HL.out; omega) hj
def EndP (t : Int) (xs : List Int) (w : World) (e : Ending) (w' : World) : Prop :=
 ∃ (N : List Dm) (ok : Bool) (A : Option Addr) (c : Nat), e = .returned (.tuple #[.slice A N.length c, .bool ok]) ∧ w'.ownsRow w.heap.size 63 3 (.slice A N.length c) N.length (rowM N) ∧ endR t xs (listR xs) N ok ∧ N.length ≤ c ∧ Below w.heap.size w w'
theorem end_nil {t : Int} {xs : List Int} {w W : World} (h : ¬ (simB xs = true ∧ listR xs ≠ [])) (hb : Below w.heap.size w W) : EndP t xs w (.returned (.tuple #[.slice none 0 0, .bool false])) W :=
 ⟨[], false, none, 0, rfl, ⟨rfl, .inl ⟨rfl, rfl⟩⟩, endR_no h, Nat.le_refl _, hb⟩
theorem end_post {t : Int} {xs : List Int} {w W : World} {N : List Dm} {ok : Bool} {A : Option Addr} {c l : Nat} (hl : N.length = l) (ho : W.ownsRow w.heap.size 63 3 (.slice A l c) l (rowM N)) (he : endR t xs (listR xs) N ok) (hc : l ≤ c) (hb : Below w.heap.size w W) : EndP t xs w (.returned (.tuple #[.slice A l c, .bool ok])) W := by
 subst hl
 exact ⟨N, ok, A, c, rfl, ho, he, hc, hb⟩
theorem own_cap2 {w : World} {base e size n cap : Nat} {A : Option Addr} {xs : List Value} (h : w.ownsRow base e size (.slice A n cap) n xs) : n ≤ cap := by
 rcases h.2 with ⟨h1, h2⟩ | ⟨g, c, cur, h1, _, _, h4, _⟩
 ·injection h1; omega
 ·injection h1 with _ _ h1; omega
structure Kth (w2 : World) (b h : Nat) (T : List (List Dm)) (lo k : Nat) (a : Option Addr) (c : Nat) : Prop where
 cell : ∀ W, Below w2.heap.size w2 W → W.cell? ⟨b, k, none⟩ = some (.slice a h c)
 own : ∀ W, Below w2.heap.size w2 W → ∃ hk : k < T.length, W.ownsRow lo 63 3 (.slice a h c) h (rowM T[k]) ∧ T[k].length = h
 le : h ≤ c
theorem kth {w2 : World} {lo hi m cap h : Nat} {A : Option Addr} {T : List (List Dm)} (s : SSIn w2 lo hi A m cap h T) (hh : ∀ L ∈ T, L.length = h) (h0 : 0 < m) : T.length = m ∧ ∃ b, A = some ⟨b, 0, none⟩ ∧ ∀ k, k < m → ∃ a c, Kth w2 b h T lo k a c := by
 obtain ⟨S, hS, hI⟩ := s
 have hl := (show SSl w2 lo hi A m cap h T S from ⟨hS, hI⟩).length
 obtain ⟨go, cg, hv, hgo, hglt⟩ := hS.1.form (by omega)
 injection hv with hA
 subst hA
 refine ⟨hl.1, go, rfl, fun k hk => ?_⟩
 obtain ⟨s, hs⟩ : ∃ s, S[k]? = some s := ⟨_, List.getElem?_eq_getElem (by omega)⟩
 have hkT : k < T.length := by omega
 have hT := List.getElem?_eq_getElem hkT
 have r := hI.2.1 k s _ hs hT
 refine ⟨s.1, s.2, fun W hb => ?_, fun W hb => ⟨hkT, own_below r.1 hb NR, hh _ (List.getElem_mem hkT)⟩, own_cap2 r.1⟩
 have := (own_below hS.1 hb NR).cells (g := go) rfl k _ (outs_at hs)
 rw [Base.add_plain] at this
 exact this
set_option maxHeartbeats 8000000 in
theorem iSumByLesser (w : World) (A : Option Addr) (n cap B : Nat) (xs : List Int) (hx : xs.length = n) (hn : (n : Int) ≤ 9223372036854775807) (h : RowB w B A xs) (hB : B ≤ w.heap.size) (hT : Tab w) :
  Calls Tryz.prog 31 #[.agg #[.slice A n cap], .func (.func 29) #[] #[]] w (EndP 1 xs w) := by
 obtain ⟨i0, hi, hz0, hz1, hz2⟩ := info_parts intInfo
 have HS := Lh (r1_start w (.slice A n cap))
 have HSim := Lh (fun W (hb : Below w.heap.size w W) => iIsSimple W A n cap B xs hx hn (h.below hb hB) (by have := hb.size; omega))
 have HLs := Lh (fun W (hb : Below w.heap.size w W) => iListTilings W A n cap B xs hx hn (h.below hb hB) (by have := hb.size; omega) (hT.on hb NR))
 have HHg := Lh (fun W (hb : Below w.heap.size w W) a l c B' (L : List Dm) (hL : L.length = l) (hl : l ≤ 32) hf (hr : RowM W B' a L) (hB' : B' ≤ W.heap.size) hcp => iHeightsOf W A n cap B xs hx hn (h.below hb hB) (by have := hb.size; omega) a l c B' L hL (by omega) hf hr hB' hcp)
 clear hx hn h hB hT
 go_enter Tryz.func31, Tryz.ntmps31
 go_wp2_with fail
 have c0 := HS.out.2.c0
 refine (HSim.out _ HS.out.1).mono ?_
 rintro e w1 ⟨rfl, hb1⟩
 have S1 := Lh (HS.out.on hb1)
 clear HS hb1 HSim c0
 have HNo := Lh (fun (hno : ¬ (simB xs = true ∧ listR xs ≠ [])) W (hb : Below w.heap.size w W) => end_nil (t := 1) hno hb)
 cases hs : simB xs with
 | false =>
  have HE := Lh (HNo.out (by rw [hs]; simp) w1 S1.out.1)
  clear HNo hs HLs HHg S1
  go_wp2
  exact bodyPost_ret (v := .tuple #[.slice none 0 0, .bool false]) (by simp [results, Tryz.results31, go_sem]) rfl HE.out
 | true =>
  have c0 := S1.out.2.c0
  go_wp2_with fail
  refine (HLs.out _ S1.out.1).mono ?_
  rintro e w2 ⟨A2, cap2, rfl, hss, hb2⟩
  have S2 := Lh (S1.out.on hb2)
  have HSm := Lh (listR_small xs)
  have HRow := Lh (fun N hN h hr => hgt_row (xs := xs) (N := N) (h := h) hs hN hr)
  have HFt := Lh (fun N hN => list_fits (xs := xs) (N := N) hN)
  have HHf := Lh (fun N hN => listR_half (xs := xs) N hN)
  have HEnd := Lh (fun S c i ss ch hi he => end_sums (t := 1) (xs := xs) (T := listR xs) (S := S) (c := c) (i := i) hs ss ch hi he)
  have h32 := halfR_le xs
  have hlo := S1.out.1.size
  clear S1 HLs hs hb2 c0
  have HPo := Lh (fun (N : List Dm) (ok : Bool) (A : Option Addr) (c l : Nat) (W : World) (hl : N.length = l) (ho : W.ownsRow w.heap.size 63 3 (.slice A l c) l (rowM N)) (he : endR 1 xs (listR xs) N ok) (hc : l ≤ c) (hb : Below w.heap.size w W) => end_post hl ho he hc hb)
  generalize halfR xs = hh at hss HHf h32
  generalize listR xs = T at hss HSm HRow HFt HHf HEnd HNo HPo
  obtain ⟨m, hm⟩ : ∃ m, T.length = m := ⟨_, rfl⟩
  rw [hm] at hss ⊢
  by_cases h0 : m = 0
  ·subst h0
   have HE := Lh (HNo.out (fun e => e.2 (List.eq_nil_of_length_eq_zero hm)) w2 S2.out.1)
   have q1 : (((0 : Nat) : Int) == 0) = true := rfl
   clear HNo HHg S2 HRow HFt HHf HEnd hss hm
   go_wp2
   exact bodyPost_ret (v := .tuple #[.slice none 0 0, .bool false]) (by simp [results, Tryz.results31, go_sem]) rfl HE.out
  ·have q1 : (((m : Nat) : Int) == 0) = false := by simp; omega
   have hm300 : m ≤ 300 := by have := HSm.out; omega
   obtain ⟨-, b, rfl, hkt⟩ := kth hss HHf.out (by omega)
   have HK := Lh hkt
   have HM := Lh hm
   have H32 := Lh h32
   have HLo := Lh hlo
   clear hkt hss hm HSm HNo h32 hlo
   have hmI : ¬ (m : Int) < 0 := by omega
   go_wp2_with (first
    | (at_make; refine wpList_make_own _ rfl _ _ 24 rfl w2.heap.size 3 i0 (.int .i64 0) 1 Tryz.underlying24 hi hz0 hz1 .i64 .i64 (m : Int) m rfl rfl rfl (by rw [hz2]; omega) (by unfold maxLen; omega) NR ?_; intro w3 hown3 hg3))
   have HO := Lh hown3
   have HB := Lh (show Below w2.heap.size w2 w3 from (Below.refl _ _).grown hg3 NR (by simp))
   clear hown3 hg3
   go_loopw [7, 9, 26] (fun u _ i wr => ∃ (k : Nat) (S : List Int), k ≤ m ∧ i = .int .i64 k ∧ Hid (Below w2.heap.size w2 wr) ∧ Hid (sumsR xs T k S) ∧ Hid (wr.ownsRow w2.heap.size 3 1 u k (ints S))) (fun _ _ i _ => m - (intOf i).toNat)
   case atStart => exact ⟨0, [], Nat.zero_le _, rfl, HB, Lh (sums_zero xs T), HO⟩
   case round =>
    clear HB HO
    obtain ⟨k, S, hk, rfl, HB, HQ, HO⟩ := hrel
    by_cases hlt : k < m
    ·have hltI : (k : Int) < (m : Int) := by omega
     obtain ⟨a, c, hK⟩ := HK.out k hlt
     have hkT : k < T.length := by rw [HM.out]; exact hlt
     have e1 := hK.cell wr HB.out
     obtain ⟨hk1, ho1, hl1⟩ := hK.own wr HB.out
     have S3 := S2.out.on HB.out
     have hmem := List.getElem_mem hkT
     have HH1 := Lh (HHg.out wr S3.1 a hh c wr.heap.size T[k] hl1 H32.out (HFt.out _ hmem) (rowM_own ho1) NR hK.le)
     have HR1 := Lh (fun h r => HRow.out _ hmem h r)
     have HQn := Lh (fun h r => sums_next (h := h) HQ.out hkT r)
     have c0 := S3.2.c0
     clear hK ho1 hl1 S3 hmem
     go_wp2_with fail
     refine HH1.out.mono ?_
     rintro e w4 ⟨hv, A5, n5, c5, r5, l5, rfl, hown5, hb5⟩
     obtain ⟨r9, l81⟩ := HR1.out hv r5
     obtain rfl : n5 = 81 := by omega
     have HB4 := Lh (HB.out.trans (hb5.mono HB.out.size))
     have HO4 := Lh (own_below HO.out hb5 NR)
     have HSu := Lh (iSum w4 A5 81 c5 w4.heap.size hv l5 (by omega) (rowB_own hown5) NR)
     have HQ4 := Lh (HQn.out hv r9)
     generalize sumH hv 81 = sv at HSu HQ4
     clear HH1 HR1 HQn r5 l5 r9 l81 hown5 hb5 HB HO HQ c0
     go_wp2_with fail
     refine HSu.out.mono ?_
     rintro e w5 ⟨rfl, hb6⟩
     have HB5 := Lh (HB4.out.trans (hb6.mono HB4.out.size))
     have HO5 := Lh (own_below HO4.out hb6 NR)
     have hw5 := HB5.out.size
     clear HSu HB4 HO4 hb6
     go_wp2_with (first
      | (at_builtin; refine wpList_append_own _ rfl _ _ 24 rfl w2.heap.size 3 i0 (.int .i64 0) 1 8 Tryz.underlying24 hi hz0 hz1 hz2 rfl (by decide) _ k (ints S) rfl (HO5.out.alloc _) ⟨w5.heap.size, 0, none⟩ 1 1 [.int .i64 sv] rfl rfl (World.news_of_block (cs := #[.int .i64 sv]) (t := 3) (fr := (0, 0)) (heap_alloc_new w5 _)) (by simp [Value.oneCell']) (by unfold maxLen; omega) (by omega) (by simp; omega) ?_; intro v2 w6 hown6 hgrow6 _))
     have HB6 := Lh (show Below w2.heap.size w2 w6 from (HB5.out.trans ((below_alloc1 w5 (.cells #[.int .i64 sv] 3)).mono hw5)).grown hgrow6 (by simp; omega) (fun q hq => (HO5.out.lt q hq).1))
     have HO6 := Lh (show w6.ownsRow w2.heap.size 3 1 v2 (k + 1) (ints (S ++ [sv])) by rw [ints_snoc3]; exact hown6)
     clear hown6 hgrow6 HB5 HO5
     go_roundw
     case rel => exact ⟨k + 1, S ++ [sv], by omega, by go_num, HB6, HQ4, HO6⟩
     case measure => (simp [intOf] <;> omega)
    ·obtain rfl : k = m := by omega
     obtain ⟨A6, cap6, rfl⟩ := own_shape HO.out
     have hSl := HQ.out.1
     obtain ⟨b6, o6, hA6, hc6⟩ := rowB_own HO.out
     obtain ⟨rfl, hb6⟩ := hA6 (by omega)
     have hS0 : 0 < S.length := by omega
     have g0 := List.getElem?_eq_getElem hS0
     have e0 := hc6 0 _ g0
     rw [Nat.add_zero] at e0
     have HC6 := Lh (fun j (hj : j < S.length) => hc6 j _ (List.getElem?_eq_getElem hj))
     generalize hx0 : S[0] = x0 at e0 g0
     have hmpos : (0 : Int) < (k : Int) := by omega
     have HSl := Lh hSl
     have HCh := Lh (chos_zero (t := 1) g0)
     have HR6 := Lh (rowB_own HO.out)
     clear hc6 g0 hS0 hSl hx0 hA6
     obtain ⟨wr1, hw1⟩ : ∃ W, W = wr := ⟨_, rfl⟩
     subst hw1
     go_wp2_with fail
     go_loopw [10, 12, 43] (fun c _ i wr => ∃ (j : Nat) (cv : Int), j ≤ k ∧ c = .int .i64 cv ∧ i = .int .i64 j ∧ Hid (wr1 = wr) ∧ Hid (chosR 1 S j cv)) (fun _ _ i _ => k - (intOf i).toNat)
     case atStart => exact ⟨0, x0, Nat.zero_le _, rfl, rfl, by first | exact Lh rfl | exact Lh trivial, HCh⟩
     case round =>
      clear HCh
      obtain ⟨j, cv, hj, rfl, rfl, HW, HCh⟩ := hrel
      obtain rfl := HW.out
      clear HW
      by_cases hjk : j < k
      ·have hjI : (j : Int) < (k : Int) := by omega
       have hjS : j < S.length := by have := HSl.out; omega
       have e3 := HC6.out j hjS
       have HN := Lh (chos_low HCh.out (List.getElem?_eq_getElem hjS))
       generalize S[j] = x at e3 HN
       have HLs := Lh (fun W => iLesser cv x W)
       obtain ⟨z, hz⟩ : ∃ z, min cv x = z := ⟨_, rfl⟩
       rw [hz] at HN HLs
       clear hz HCh
       go_wp2_with fail
       refine (HLs.out _).mono ?_
       rintro e w7 ⟨rfl, rfl⟩
       go_wp2
       go_roundw
       case rel => exact ⟨j + 1, z, by omega, rfl, by go_num, by first | exact Lh rfl | exact Lh trivial, HN⟩
       case measure => (simp [intOf] <;> omega)
      ·obtain rfl : j = k := by omega
       have HIx := Lh (fun hl => iIdxI wr1 (some ⟨b6, o6, none⟩) j cap6 wr1.heap.size S HSl.out hl HR6.out cv HCh.out.1)
       have HIx := Lh (HIx.out (by omega))
       have HCh2 := Lh (show chosR 1 S S.length cv by rw [HSl.out]; exact HCh.out)
       clear HCh
       go_wp2_with fail
       refine HIx.out.mono ?_
       rintro e w8 ⟨i, rfl, hij, hSi, rfl⟩
       obtain ⟨a, c, hK⟩ := HK.out i hij
       have e4 := hK.cell _ HB.out
       obtain ⟨hiT, ho4, hl4⟩ := hK.own _ HB.out
       have hEn := HEnd.out S cv i (by rw [HM.out]; exact HQ.out) HCh2.out hiT hSi
       have hijI : (i : Int) < (j : Int) := by omega
       have HP := Lh (HPo.out T[i] true a c hh wr1 hl4 (own_base ho4 HLo.out) hEn hK.le (S2.out.on HB.out).1)
       clear hK ho4 hl4 hEn HIx HCh2 hSi hiT
       go_wp2
       exact bodyPost_ret (v := .tuple #[.slice a hh c, .bool true]) (by simp [results, Tryz.results31, go_sem]) rfl HP.out
set_option maxHeartbeats 1000000 in
theorem iLowestTiling (w : World) (A : Option Addr) (n cap B : Nat) (xs : List Int) (hx : xs.length = n) (hn : (n : Int) ≤ 9223372036854775807) (h : RowB w B A xs) (hB : B ≤ w.heap.size) (hT : Tab w) :
  Calls Tryz.prog 10 #[.agg #[.slice A n cap]] w (EndP 1 xs w) := by
 have HS := Lh (r1_start w (.slice A n cap))
 have HBe := Lh (fun W (hb : Below w.heap.size w W) => iSumByLesser W A n cap B xs hx hn (h.below hb hB) (by have := hb.size; omega) (hT.on hb NR))
 clear hx hn h hB hT
 go_enter Tryz.func10, Tryz.ntmps10
 go_wp2_with fail
 have c0 := HS.out.2.c0
 refine (HBe.out _ HS.out.1).mono ?_
 rintro e w1 ⟨N, ok, A6, c6, rfl, hown, hj, hle, hb1⟩
 have HP := Lh (show EndP 1 xs w (.returned (.tuple #[.slice A6 N.length c6, .bool ok])) w1 from ⟨N, ok, A6, c6, rfl, own_base hown HS.out.1.size, hj, hle, HS.out.1.trans (hb1.mono HS.out.1.size)⟩)
 clear HS HBe hown hj hle hb1 c0
 generalize N.length = n6 at HP ⊢
 go_wp2
 exact bodyPost_ret (v := .tuple #[.slice A6 n6 c6, .bool ok]) (by simp [results, Tryz.results10, go_sem]) rfl HP.out
set_option maxHeartbeats 8000000 in
theorem iSumByGreater (w : World) (A : Option Addr) (n cap B : Nat) (xs : List Int) (hx : xs.length = n) (hn : (n : Int) ≤ 9223372036854775807) (h : RowB w B A xs) (hB : B ≤ w.heap.size) (hT : Tab w) :
  Calls Tryz.prog 31 #[.agg #[.slice A n cap], .func (.func 30) #[] #[]] w (EndP (-1) xs w) := by
 obtain ⟨i0, hi, hz0, hz1, hz2⟩ := info_parts intInfo
 have HS := Lh (r1_start w (.slice A n cap))
 have HSim := Lh (fun W (hb : Below w.heap.size w W) => iIsSimple W A n cap B xs hx hn (h.below hb hB) (by have := hb.size; omega))
 have HLs := Lh (fun W (hb : Below w.heap.size w W) => iListTilings W A n cap B xs hx hn (h.below hb hB) (by have := hb.size; omega) (hT.on hb NR))
 have HHg := Lh (fun W (hb : Below w.heap.size w W) a l c B' (L : List Dm) (hL : L.length = l) (hl : l ≤ 32) hf (hr : RowM W B' a L) (hB' : B' ≤ W.heap.size) hcp => iHeightsOf W A n cap B xs hx hn (h.below hb hB) (by have := hb.size; omega) a l c B' L hL (by omega) hf hr hB' hcp)
 clear hx hn h hB hT
 go_enter Tryz.func31, Tryz.ntmps31
 go_wp2_with fail
 have c0 := HS.out.2.c0
 refine (HSim.out _ HS.out.1).mono ?_
 rintro e w1 ⟨rfl, hb1⟩
 have S1 := Lh (HS.out.on hb1)
 clear HS hb1 HSim c0
 have HNo := Lh (fun (hno : ¬ (simB xs = true ∧ listR xs ≠ [])) W (hb : Below w.heap.size w W) => end_nil (t := (-1)) hno hb)
 cases hs : simB xs with
 | false =>
  have HE := Lh (HNo.out (by rw [hs]; simp) w1 S1.out.1)
  clear HNo hs HLs HHg S1
  go_wp2
  exact bodyPost_ret (v := .tuple #[.slice none 0 0, .bool false]) (by simp [results, Tryz.results31, go_sem]) rfl HE.out
 | true =>
  have c0 := S1.out.2.c0
  go_wp2_with fail
  refine (HLs.out _ S1.out.1).mono ?_
  rintro e w2 ⟨A2, cap2, rfl, hss, hb2⟩
  have S2 := Lh (S1.out.on hb2)
  have HSm := Lh (listR_small xs)
  have HRow := Lh (fun N hN h hr => hgt_row (xs := xs) (N := N) (h := h) hs hN hr)
  have HFt := Lh (fun N hN => list_fits (xs := xs) (N := N) hN)
  have HHf := Lh (fun N hN => listR_half (xs := xs) N hN)
  have HEnd := Lh (fun S c i ss ch hi he => end_sums (t := (-1)) (xs := xs) (T := listR xs) (S := S) (c := c) (i := i) hs ss ch hi he)
  have h32 := halfR_le xs
  have hlo := S1.out.1.size
  clear S1 HLs hs hb2 c0
  have HPo := Lh (fun (N : List Dm) (ok : Bool) (A : Option Addr) (c l : Nat) (W : World) (hl : N.length = l) (ho : W.ownsRow w.heap.size 63 3 (.slice A l c) l (rowM N)) (he : endR (-1) xs (listR xs) N ok) (hc : l ≤ c) (hb : Below w.heap.size w W) => end_post hl ho he hc hb)
  generalize halfR xs = hh at hss HHf h32
  generalize listR xs = T at hss HSm HRow HFt HHf HEnd HNo HPo
  obtain ⟨m, hm⟩ : ∃ m, T.length = m := ⟨_, rfl⟩
  rw [hm] at hss ⊢
  by_cases h0 : m = 0
  ·subst h0
   have HE := Lh (HNo.out (fun e => e.2 (List.eq_nil_of_length_eq_zero hm)) w2 S2.out.1)
   have q1 : (((0 : Nat) : Int) == 0) = true := rfl
   clear HNo HHg S2 HRow HFt HHf HEnd hss hm
   go_wp2
   exact bodyPost_ret (v := .tuple #[.slice none 0 0, .bool false]) (by simp [results, Tryz.results31, go_sem]) rfl HE.out
  ·have q1 : (((m : Nat) : Int) == 0) = false := by simp; omega
   have hm300 : m ≤ 300 := by have := HSm.out; omega
   obtain ⟨-, b, rfl, hkt⟩ := kth hss HHf.out (by omega)
   have HK := Lh hkt
   have HM := Lh hm
   have H32 := Lh h32
   have HLo := Lh hlo
   clear hkt hss hm HSm HNo h32 hlo
   have hmI : ¬ (m : Int) < 0 := by omega
   go_wp2_with (first
    | (at_make; refine wpList_make_own _ rfl _ _ 24 rfl w2.heap.size 3 i0 (.int .i64 0) 1 Tryz.underlying24 hi hz0 hz1 .i64 .i64 (m : Int) m rfl rfl rfl (by rw [hz2]; omega) (by unfold maxLen; omega) NR ?_; intro w3 hown3 hg3))
   have HO := Lh hown3
   have HB := Lh (show Below w2.heap.size w2 w3 from (Below.refl _ _).grown hg3 NR (by simp))
   clear hown3 hg3
   go_loopw [7, 9, 26] (fun u _ i wr => ∃ (k : Nat) (S : List Int), k ≤ m ∧ i = .int .i64 k ∧ Hid (Below w2.heap.size w2 wr) ∧ Hid (sumsR xs T k S) ∧ Hid (wr.ownsRow w2.heap.size 3 1 u k (ints S))) (fun _ _ i _ => m - (intOf i).toNat)
   case atStart => exact ⟨0, [], Nat.zero_le _, rfl, HB, Lh (sums_zero xs T), HO⟩
   case round =>
    clear HB HO
    obtain ⟨k, S, hk, rfl, HB, HQ, HO⟩ := hrel
    by_cases hlt : k < m
    ·have hltI : (k : Int) < (m : Int) := by omega
     obtain ⟨a, c, hK⟩ := HK.out k hlt
     have hkT : k < T.length := by rw [HM.out]; exact hlt
     have e1 := hK.cell wr HB.out
     obtain ⟨hk1, ho1, hl1⟩ := hK.own wr HB.out
     have S3 := S2.out.on HB.out
     have hmem := List.getElem_mem hkT
     have HH1 := Lh (HHg.out wr S3.1 a hh c wr.heap.size T[k] hl1 H32.out (HFt.out _ hmem) (rowM_own ho1) NR hK.le)
     have HR1 := Lh (fun h r => HRow.out _ hmem h r)
     have HQn := Lh (fun h r => sums_next (h := h) HQ.out hkT r)
     have c0 := S3.2.c0
     clear hK ho1 hl1 S3 hmem
     go_wp2_with fail
     refine HH1.out.mono ?_
     rintro e w4 ⟨hv, A5, n5, c5, r5, l5, rfl, hown5, hb5⟩
     obtain ⟨r9, l81⟩ := HR1.out hv r5
     obtain rfl : n5 = 81 := by omega
     have HB4 := Lh (HB.out.trans (hb5.mono HB.out.size))
     have HO4 := Lh (own_below HO.out hb5 NR)
     have HSu := Lh (iSum w4 A5 81 c5 w4.heap.size hv l5 (by omega) (rowB_own hown5) NR)
     have HQ4 := Lh (HQn.out hv r9)
     generalize sumH hv 81 = sv at HSu HQ4
     clear HH1 HR1 HQn r5 l5 r9 l81 hown5 hb5 HB HO HQ c0
     go_wp2_with fail
     refine HSu.out.mono ?_
     rintro e w5 ⟨rfl, hb6⟩
     have HB5 := Lh (HB4.out.trans (hb6.mono HB4.out.size))
     have HO5 := Lh (own_below HO4.out hb6 NR)
     have hw5 := HB5.out.size
     clear HSu HB4 HO4 hb6
     go_wp2_with (first
      | (at_builtin; refine wpList_append_own _ rfl _ _ 24 rfl w2.heap.size 3 i0 (.int .i64 0) 1 8 Tryz.underlying24 hi hz0 hz1 hz2 rfl (by decide) _ k (ints S) rfl (HO5.out.alloc _) ⟨w5.heap.size, 0, none⟩ 1 1 [.int .i64 sv] rfl rfl (World.news_of_block (cs := #[.int .i64 sv]) (t := 3) (fr := (0, 0)) (heap_alloc_new w5 _)) (by simp [Value.oneCell']) (by unfold maxLen; omega) (by omega) (by simp; omega) ?_; intro v2 w6 hown6 hgrow6 _))
     have HB6 := Lh (show Below w2.heap.size w2 w6 from (HB5.out.trans ((below_alloc1 w5 (.cells #[.int .i64 sv] 3)).mono hw5)).grown hgrow6 (by simp; omega) (fun q hq => (HO5.out.lt q hq).1))
     have HO6 := Lh (show w6.ownsRow w2.heap.size 3 1 v2 (k + 1) (ints (S ++ [sv])) by rw [ints_snoc3]; exact hown6)
     clear hown6 hgrow6 HB5 HO5
     go_roundw
     case rel => exact ⟨k + 1, S ++ [sv], by omega, by go_num, HB6, HQ4, HO6⟩
     case measure => (simp [intOf] <;> omega)
    ·obtain rfl : k = m := by omega
     obtain ⟨A6, cap6, rfl⟩ := own_shape HO.out
     have hSl := HQ.out.1
     obtain ⟨b6, o6, hA6, hc6⟩ := rowB_own HO.out
     obtain ⟨rfl, hb6⟩ := hA6 (by omega)
     have hS0 : 0 < S.length := by omega
     have g0 := List.getElem?_eq_getElem hS0
     have e0 := hc6 0 _ g0
     rw [Nat.add_zero] at e0
     have HC6 := Lh (fun j (hj : j < S.length) => hc6 j _ (List.getElem?_eq_getElem hj))
     generalize hx0 : S[0] = x0 at e0 g0
     have hmpos : (0 : Int) < (k : Int) := by omega
     have HSl := Lh hSl
     have HCh := Lh (chos_zero (t := (-1)) g0)
     have HR6 := Lh (rowB_own HO.out)
     clear hc6 g0 hS0 hSl hx0 hA6
     obtain ⟨wr1, hw1⟩ : ∃ W, W = wr := ⟨_, rfl⟩
     subst hw1
     go_wp2_with fail
     go_loopw [10, 12, 43] (fun c _ i wr => ∃ (j : Nat) (cv : Int), j ≤ k ∧ c = .int .i64 cv ∧ i = .int .i64 j ∧ Hid (wr1 = wr) ∧ Hid (chosR (-1) S j cv)) (fun _ _ i _ => k - (intOf i).toNat)
     case atStart => exact ⟨0, x0, Nat.zero_le _, rfl, rfl, by first | exact Lh rfl | exact Lh trivial, HCh⟩
     case round =>
      clear HCh
      obtain ⟨j, cv, hj, rfl, rfl, HW, HCh⟩ := hrel
      obtain rfl := HW.out
      clear HW
      by_cases hjk : j < k
      ·have hjI : (j : Int) < (k : Int) := by omega
       have hjS : j < S.length := by have := HSl.out; omega
       have e3 := HC6.out j hjS
       have HN := Lh (chos_high HCh.out (List.getElem?_eq_getElem hjS))
       generalize S[j] = x at e3 HN
       have HLs := Lh (fun W => iGreater cv x W)
       obtain ⟨z, hz⟩ : ∃ z, max cv x = z := ⟨_, rfl⟩
       rw [hz] at HN HLs
       clear hz HCh
       go_wp2_with fail
       refine (HLs.out _).mono ?_
       rintro e w7 ⟨rfl, rfl⟩
       go_wp2
       go_roundw
       case rel => exact ⟨j + 1, z, by omega, rfl, by go_num, by first | exact Lh rfl | exact Lh trivial, HN⟩
       case measure => (simp [intOf] <;> omega)
      ·obtain rfl : j = k := by omega
       have HIx := Lh (fun hl => iIdxI wr1 (some ⟨b6, o6, none⟩) j cap6 wr1.heap.size S HSl.out hl HR6.out cv HCh.out.1)
       have HIx := Lh (HIx.out (by omega))
       have HCh2 := Lh (show chosR (-1) S S.length cv by rw [HSl.out]; exact HCh.out)
       clear HCh
       go_wp2_with fail
       refine HIx.out.mono ?_
       rintro e w8 ⟨i, rfl, hij, hSi, rfl⟩
       obtain ⟨a, c, hK⟩ := HK.out i hij
       have e4 := hK.cell _ HB.out
       obtain ⟨hiT, ho4, hl4⟩ := hK.own _ HB.out
       have hEn := HEnd.out S cv i (by rw [HM.out]; exact HQ.out) HCh2.out hiT hSi
       have hijI : (i : Int) < (j : Int) := by omega
       have HP := Lh (HPo.out T[i] true a c hh wr1 hl4 (own_base ho4 HLo.out) hEn hK.le (S2.out.on HB.out).1)
       clear hK ho4 hl4 hEn HIx HCh2 hSi hiT
       go_wp2
       exact bodyPost_ret (v := .tuple #[.slice a hh c, .bool true]) (by simp [results, Tryz.results31, go_sem]) rfl HP.out
set_option maxHeartbeats 1000000 in
theorem iHighestTiling (w : World) (A : Option Addr) (n cap B : Nat) (xs : List Int) (hx : xs.length = n) (hn : (n : Int) ≤ 9223372036854775807) (h : RowB w B A xs) (hB : B ≤ w.heap.size) (hT : Tab w) :
  Calls Tryz.prog 11 #[.agg #[.slice A n cap]] w (EndP (-1) xs w) := by
 have HS := Lh (r1_start w (.slice A n cap))
 have HBe := Lh (fun W (hb : Below w.heap.size w W) => iSumByGreater W A n cap B xs hx hn (h.below hb hB) (by have := hb.size; omega) (hT.on hb NR))
 clear hx hn h hB hT
 go_enter Tryz.func11, Tryz.ntmps11
 go_wp2_with fail
 have c0 := HS.out.2.c0
 refine (HBe.out _ HS.out.1).mono ?_
 rintro e w1 ⟨N, ok, A6, c6, rfl, hown, hj, hle, hb1⟩
 have HP := Lh (show EndP (-1) xs w (.returned (.tuple #[.slice A6 N.length c6, .bool ok])) w1 from ⟨N, ok, A6, c6, rfl, own_base hown HS.out.1.size, hj, hle, HS.out.1.trans (hb1.mono HS.out.1.size)⟩)
 clear HS HBe hown hj hle hb1 c0
 generalize N.length = n6 at HP ⊢
 go_wp2
 exact bodyPost_ret (v := .tuple #[.slice A6 n6 c6, .bool ok]) (by simp [results, Tryz.results11, go_sem]) rfl HP.out
end Go.Proofs.YtmajllgfmclcoaaGreatDoor.Jn
