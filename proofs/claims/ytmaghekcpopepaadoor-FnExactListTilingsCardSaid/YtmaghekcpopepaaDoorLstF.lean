/- ListTilings, FirstTiling of the program, IndexOf: the program's and the model's functions. -/
import Derived.Test.YtmaghekcpopepaaDoorMgExt
import Derived.Test.YtmaghekcpopepaaDoorLisT
import Derived.Test.YtmaghekcpopepaaDoorMgStS
import Derived.Test.YtmaghekcpopepaaDoorSam
namespace Go.Proofs.YtmaghekcpopepaaDoor.Lst
set_option linter.unusedVariables false
set_option linter.unusedSimpArgs false
set_option maxRecDepth 100000
open Go.RowKit Go.Proofs.YtmaghekcpopepaaDoor.Base Go.Proofs.YtmaghekcpopepaaDoor.Pure Go.Proofs.YtmaghekcpopepaaDoor.Cell Go.Proofs.YtmaghekcpopepaaDoor.Cels Go.Proofs.YtmaghekcpopepaaDoor.Dom Go.Proofs.YtmaghekcpopepaaDoor.Dms Go.Proofs.YtmaghekcpopepaaDoor.Til Go.Proofs.YtmaghekcpopepaaDoor.Grd Go.Proofs.YtmaghekcpopepaaDoor.Dss Go.Proofs.YtmaghekcpopepaaDoor.Lis Go.Proofs.YtmaghekcpopepaaDoor.Sets Go.Proofs.YtmaghekcpopepaaDoor.Ext Go.Proofs.YtmaghekcpopepaaDoor.Sam Go.Joins
open Go.Proofs.YtmaghekcpopepaaDoor.Cnt (gR tiles gR_in gR_out idxs idxs_cells tilesR tilesR_ok tilesR_not)
open Go.Proofs.YtmaghekcpopepaaDoor.Prof (sCountTilings)
open Go.Proofs.YtmaghekcpopepaaDoor.Reg hiding Yes add_none

/-- what ListTilings answers. -/
def listR (xs : List Int) : List (List Dm) := if (allR xs).length ≤ 300 then allR xs else []
theorem listR_small (xs : List Int) : (listR xs).length ≤ 300 := by unfold listR; split <;> simp_all
theorem listR_half {xs : List Int} : ∀ L ∈ listR xs, L.length = halfR xs := by
  intro L hL
  unfold listR at hL
  split at hL
  · exact allR_half L hL
  · cases hL
theorem halfR_le (xs : List Int) : halfR xs ≤ 32 := by unfold halfR; have := cellsR_length xs; omega
theorem take_301 (xs : List Int) : (((allR xs).take 301).length ≤ 300 ∧ (allR xs).take 301 = listR xs) ∨ (300 < ((allR xs).take 301).length ∧ listR xs = []) := by
  by_cases h : (allR xs).length ≤ 300
  · left
    rw [List.take_of_length_le (by omega)]
    unfold listR
    rw [if_pos h]
    exact ⟨h, rfl⟩
  · right
    rw [List.length_take]
    unfold listR
    rw [if_neg h]
    exact ⟨by omega, rfl⟩
theorem allR_count (xs : List Int) : ((allR xs).length : Int) = tilesR xs := by
  by_cases h : okR xs
  · rw [allR_ok h, all_length h]
  · rw [allR_not h, tilesR_not h]; rfl

set_option maxHeartbeats 1000000 in
theorem iListTilings (w : World) (A : Option Addr) (n cap B : Nat) (xs : List Int) (hx : xs.length = n) (hn : (n : Int) ≤ 9223372036854775807) (hrow : RowB w B A xs) (hB : B ≤ w.heap.size) (hT : Tab w) :
    Calls Tryd.prog 9 #[.agg #[.slice A n cap]] w (SSP (listR xs) (halfR xs) w) := by
  have HF := Lib.hid (fun W (hb : Below w.heap.size w W) => iFirstTilings W A n cap B xs hx hn (hrow.below hb hB) (by have := hb.size; omega) 301 (by omega) (hT.on hb (Nat.le_refl _)))
  have HR := Lib.hid (Rg.new w (.slice A n cap))
  have HS := Lib.hid (below_alloc1 w (.cells #[.slice A n cap] 26))
  have HC := Lib.hid (take_301 xs)
  generalize (allR xs).take 301 = T at HF HC
  obtain ⟨m, hm⟩ : ∃ m, m = T.length := ⟨_, rfl⟩
  have HM := Lib.hid hm
  have HF := Lib.hid (fun W hb => show Calls Tryd.prog 33 #[.agg #[.slice A n cap], .int .i64 301] W (SSP T (halfR xs) W) from HF.out W hb)
  clear hx hn hrow hB hT hm
  go_enter Tryd.func9, Tryd.ntmps9
  go_wp2_with fail
  have c0 := HR.out.c0
  refine (HF.out _ HS.out).mono ?_
  rintro e w1 ⟨A1, cap1, rfl, hss, hb1⟩
  have HX := Lib.hid (hss.wide (lo' := w.heap.size) (hi' := w1.heap.size) HS.out.size (Nat.le_refl _))
  have hbw := HS.out.trans (hb1.mono HS.out.size)
  rw [← HM.out] at HX ⊢
  clear hss hb1 HF HR HS c0
  rcases HC.out with ⟨h1, h2⟩ | ⟨h1, h2⟩
  · rw [← HM.out] at h1
    have HP := Lib.hid (show SSP (listR xs) (halfR xs) w (.returned (.slice A1 m cap1)) w1 by
      rw [← h2]
      exact ⟨A1, cap1, by rw [HM.out], by rw [← HM.out]; exact HX.out, hbw⟩)
    have hg : ¬ (300 : Int) < (m : Int) := by omega
    clear h2 HC
    go_wp2
    go_ret
    exact HP.out
  · rw [← HM.out] at h1
    have HP := Lib.hid (show SSP (listR xs) (halfR xs) w (.returned (.slice none 0 0)) w1 by
      rw [h2]; exact ⟨none, 0, rfl, ss_nil _ _ _ _, hbw⟩)
    have hg : (300 : Int) < (m : Int) := by omega
    clear h2 HC
    go_wp2
    go_ret
    exact HP.out

/-- the first tiling; no domino where there is none. -/
def firR (xs : List Int) : List Dm := (allR xs).headD []
/-- dominoes and a bool as an answer. -/
def DmB (L : List Dm) (b : Bool) (w : World) (e : Ending) (w' : World) : Prop := ∃ A cap, e = .returned (.tuple #[.slice A L.length cap, .bool b]) ∧ w'.ownsRow w.heap.size 37 3 (.slice A L.length cap) L.length (rowM L) ∧ Below w.heap.size w w'
set_option maxHeartbeats 1000000 in
theorem iFirstTiling (w : World) (A : Option Addr) (n cap B : Nat) (xs : List Int) (hx : xs.length = n) (hn : (n : Int) ≤ 9223372036854775807) (hrow : RowB w B A xs) (hB : B ≤ w.heap.size) (hT : Tab w) :
    Calls Tryd.prog 10 #[.agg #[.slice A n cap]] w (DmB (firR xs) (decide (0 < tilesR xs)) w) := by
  have HF := Lib.hid (fun W (hb : Below w.heap.size w W) => show Calls Tryd.prog 33 #[.agg #[.slice A n cap], .int .i64 1] W (SSP ((allR xs).take 1) (halfR xs) W) from iFirstTilings W A n cap B xs hx hn (hrow.below hb hB) (by have := hb.size; omega) 1 (by omega) (hT.on hb (Nat.le_refl _)))
  have HR := Lib.hid (Rg.new w (.slice A n cap))
  have HS := Lib.hid (below_alloc1 w (.cells #[.slice A n cap] 26))
  have hcnt := allR_count xs
  have hhalf := allR_half (xs := xs)
  have HE := Lib.hid (show firR xs = (allR xs).headD [] from rfl)
  cases hal : allR xs with
  | nil =>
    rw [hal] at HF hcnt HE
    have HP := Lib.hid (fun (w1 : World) (hb : Below w.heap.size w w1) => show DmB (firR xs) (decide (0 < tilesR xs)) w (.returned (.tuple #[.slice none 0 0, .bool false])) w1 by
      rw [HE.out, ← hcnt]
      exact ⟨none, 0, rfl, ⟨rfl, .inl ⟨rfl, rfl⟩⟩, hb⟩)
    clear hcnt hhalf hal HE hx hn hrow hB hT
    go_enter Tryd.func10, Tryd.ntmps10
    go_wp2_with fail
    have c0 := HR.out.c0
    refine (HF.out _ HS.out).mono ?_
    rintro e w1 ⟨A1, cap1, rfl, hss, hb1⟩
    have hbw := HS.out.trans (hb1.mono HS.out.size)
    clear hss hb1
    go_wp2
    go_ret2
    exact HP.out _ hbw
  | cons L T =>
    rw [hal] at HF hcnt HE
    have hLh : L.length = halfR xs := hhalf L (by rw [hal]; simp)
    have HP := Lib.hid (fun (w1 : World) (A1 : Option Addr) (c : Nat) (ho : w1.ownsRow w.heap.size 37 3 (.slice A1 (halfR xs) c) (halfR xs) (rowM L)) (hb : Below w.heap.size w w1) => show DmB (firR xs) (decide (0 < tilesR xs)) w (.returned (.tuple #[.slice A1 (halfR xs) c, .bool true])) w1 by
      have e : firR xs = L := HE.out
      rw [e, ← hcnt, ← hLh]
      rw [← hLh] at ho
      exact ⟨A1, c, by simp, ho, hb⟩)
    clear hcnt hhalf hal HE hx hn hrow hB hT hLh
    go_enter Tryd.func10, Tryd.ntmps10
    go_wp2_with fail
    have c0 := HR.out.c0
    refine (HF.out _ HS.out).mono ?_
    rintro e w1 ⟨A1, cap1, rfl, ⟨S, hss⟩, hb1⟩
    have hbw := HS.out.trans (hb1.mono HS.out.size)
    have hl := hss.length
    have hsz := HS.out.size
    obtain ⟨g, c, hv, _, hlt⟩ := hss.1.1.form (by simp)
    injection hv with hA
    subst hA
    obtain ⟨s, hs⟩ : ∃ s, S[0]? = some s := ⟨_, List.getElem?_eq_getElem (by rw [hl.2]; simp)⟩
    have c1 := hss.1.1.cells (g := g) rfl 0 _ (outs_at hs)
    rw [Base.add_plain] at c1
    have ho := (hss.2.2.1 0 s L hs rfl).1
    have HO := Lib.hid (HP.out w1 s.1 s.2 (Reg.own_base ho hsz) hbw)
    generalize s.1 = As at c1 HO
    generalize s.2 = cs at c1 HO
    generalize halfR xs = h at c1 HO
    clear hss hb1 HP HF hl ho hs
    go_wp2
    go_ret2
    exact HO.out

set_option maxHeartbeats 1000000 in
theorem sListTilings (w : World) (A : Option Addr) (n cap B : Nat) (xs : List Int) (hx : xs.length = n) (hn : (n : Int) ≤ 9223372036854775807) (hrow : RowB w B A xs) (hB : B ≤ w.heap.size) :
    Calls Tryd.prog 17 #[.agg #[.slice A n cap]] w (SSP (listR xs) (halfR xs) w) := by
  have HCt := Lib.hid (fun W (hb : Below w.heap.size w W) => sCountTilings W A n cap B xs hx hn (hrow.below hb hB) (by have := hb.size; omega))
  have HR := Lib.hid (Rg.new w (.slice A n cap))
  have HS := Lib.hid (below_alloc1 w (.cells #[.slice A n cap] 26))
  have hcnt := allR_count xs
  have HIn := Lib.hid (fun W => l01In (tilesR xs) 1 300 W)
  by_cases hin : 1 ≤ tilesR xs ∧ tilesR xs ≤ 300
  · have ho : okR xs := by
      by_cases q : okR xs
      · exact q
      · rw [tilesR_not q] at hin; omega
    rw [inB_of hin] at HIn
    have HL := Lib.hid (fun W (hb : Below w.heap.size w W) (g : Nat) (hd : Hd W g 0 []) => by
      have := sList xs n hx ho A cap B (halfR xs) rfl 65 W (hrow.below hb hB) (by have := hb.size; omega) [] 0 (Beg.zero xs) (Nat.zero_le _) (fun i hi => by omega) (by have := unc_length [] (cellsR xs); have := cellsR_length xs; omega) g 0 hd (by simp) 300 (by omega) (Nat.le_refl _)
      rw [show List.take 300 (cont xs []) = listR xs by
        unfold listR
        rw [if_pos (by omega), cont_nil, allR_ok ho]
        rw [allR_ok ho] at hcnt
        exact List.take_of_length_le (by show (allT xs).length ≤ 300; omega)] at this
      exact show Calls Tryd.prog 43 #[.agg #[.slice A n cap], .slice (some ⟨g, 0, none⟩) 0 0, .int .i64 300] W (SSPost (listR xs) (halfR xs) W) from this)
    have HMd := Lib.hid (fun (W : World) => World.ownsRow_made (base := 0) (e := 37) (size := 3) W #[] 0 (Nat.zero_le _) (by unfold maxLen; omega) rfl)
    generalize tilesR xs = q at HCt HIn
    generalize halfR xs = h at HL ⊢
    generalize listR xs = L at HL ⊢
    clear hcnt hin ho hx hn hrow hB
    go_enter Tryd.func17, Tryd.ntmps17
    go_wp2_with fail
    have c0 := HR.out.c0
    have R0 := HR.out
    have B0 := HS.out
    generalize w.alloc (.cells #[.slice A n cap] 26) = W0 at c0 R0 B0 ⊢
    refine (HCt.out _ B0).mono ?_
    rintro e w1 ⟨rfl, hb1⟩
    have R1 := R0.on hb1
    have B1 := B0.trans (hb1.mono B0.size)
    clear R0 B0 hb1 HR HS HCt c0
    go_wp2_with fail
    refine (HIn.out _).mono ?_
    rintro e w2 ⟨rfl, hw⟩
    have hw := hw.symm
    subst hw
    have c1 := R1.c0
    have B2 := B1.alloc B1.size (.cells #[] 37)
    have hsz := B1.size
    go_wp2_with fail
    refine (HL.out _ B2 _ (HMd.out w1)).mono ?_
    rintro e w3 ⟨g, c, rfl, hss, hb3⟩
    have HP := Lib.hid (show SSP L h w (.returned (.slice (some ⟨g, 0, none⟩) L.length c)) w3 from ⟨_, c, rfl, hss.wide (by simp; omega) (Nat.le_refl _), B2.trans (hb3.mono B2.size)⟩)
    clear hss hb3 HL HMd
    go_wp2
    go_ret
    exact HP.out
  · have hE : listR xs = [] := by
      unfold listR
      split
      · exact List.eq_nil_of_length_eq_zero (by omega)
      · rfl
    rw [inB_not hin] at HIn
    have HP := Lib.hid (fun (w1 : World) (hb : Below w.heap.size w w1) => show SSP (listR xs) (halfR xs) w (.returned (.slice (some ⟨w1.heap.size, 0, none⟩) 0 0)) (w1.alloc (.cells #[] 30)) by
      rw [hE]
      have hn := World.ownsRow_made (base := w.heap.size) (e := 30) (size := 1) w1 #[] 0 hb.size (by unfold maxLen; omega) rfl
      exact ⟨_, 0, rfl, ⟨[], ⟨hn, fun g hg => (hn.lt g hg).2⟩, Ins.nil _ _ _ _⟩, hb.alloc hb.size _⟩)
    generalize tilesR xs = q at HCt HIn
    clear hcnt hin hE hx hn hrow hB
    go_enter Tryd.func17, Tryd.ntmps17
    go_wp2_with fail
    have c0 := HR.out.c0
    have B0 := HS.out
    generalize w.alloc (.cells #[.slice A n cap] 26) = W0 at c0 B0 ⊢
    refine (HCt.out _ B0).mono ?_
    rintro e w1 ⟨rfl, hb1⟩
    have B1 := B0.trans (hb1.mono B0.size)
    clear B0 hb1 HR HS HCt c0
    go_wp2_with fail
    refine (HIn.out _).mono ?_
    rintro e w2 ⟨rfl, hw⟩
    have hw := hw.symm
    subst hw
    go_wp2
    go_ret
    exact HP.out _ B1

/-- the index of a list. -/
def idxFrom : List (List Dm) → List Dm → Nat → Int
  | [], _, _ => -1
  | x :: r, L, k => if x = L then (k : Int) else idxFrom r L (k + 1)
def idxR (T : List (List Dm)) (L : List Dm) : Int := idxFrom T L 0
theorem idx_drop {L : List Dm} : ∀ {T : List (List Dm)} {k i : Nat}, k ≤ T.length → (∀ j (hj : j < T.length), j < k → T[j] ≠ L) → idxFrom T L i = idxFrom (T.drop k) L (i + k)
  | _, 0, _, _, _ => rfl
  | [], k + 1, _, h, _ => by simp at h
  | x :: r, k + 1, i, h, hd => by
    have h0 : x ≠ L := hd 0 (by simp) (by omega)
    show (if x = L then _ else idxFrom r L (i + 1)) = idxFrom (r.drop k) L (i + (k + 1))
    rw [if_neg h0, idx_drop (T := r) (k := k) (by simp at h; omega) (fun j hj hjk => by
      have := hd (j + 1) (by simp; omega) (by omega)
      simpa using this), show i + 1 + k = i + (k + 1) by omega]
theorem idx_at {T : List (List Dm)} {L : List Dm} {k : Nat} (hk : k < T.length) (hd : ∀ j (hj : j < T.length), j < k → T[j] ≠ L) (he : T[k] = L) : idxR T L = (k : Int) := by
  unfold idxR
  rw [idx_drop (Nat.le_of_lt hk) hd, List.drop_eq_getElem_cons hk]
  show (if T[k] = L then ((0 + k : Nat) : Int) else _) = _
  rw [if_pos he, Nat.zero_add]
theorem idx_end {T : List (List Dm)} {L : List Dm} (hd : ∀ j (hj : j < T.length), T[j] ≠ L) : idxR T L = -1 := by
  unfold idxR
  rw [idx_drop (Nat.le_refl _) (fun j hj _ => hd j hj), List.drop_length]; rfl

set_option maxHeartbeats 2000000 in
theorem iIndexOf (w : World) (A : Option Addr) (n cap B : Nat) (xs : List Int) (hx : xs.length = n) (hn : (n : Int) ≤ 9223372036854775807) (hrow : RowB w B A xs) (hB : B ≤ w.heap.size) (hT : Tab w) (A' : Option Addr) (n' cap' B' : Nat) (M : List Dm) (hM : M.length = n') (hn' : (n' : Int) ≤ 9223372036854775807) (h' : RowM w B' A' M) (hB' : B' ≤ w.heap.size) :
    Calls Tryd.prog 15 #[.agg #[.slice A n cap], .slice A' n' cap'] w (Num (idxR (listR xs) M) w) := by
  have HL := Lib.hid (fun W (hb : Below w.heap.size w W) => iListTilings W A n cap B xs hx hn (hrow.below hb hB) (by have := hb.size; omega) (hT.on hb (Nat.le_refl _)))
  have HR := Lib.hid (Rg.new w (.slice A n cap))
  have HS := Lib.hid (below_alloc1 w (.cells #[.slice A n cap] 26))
  have hsm := listR_small xs
  have hhf := halfR_le xs
  have hall := listR_half (xs := xs)
  generalize listR xs = T at HL hsm hall ⊢
  generalize halfR xs = h at HL hhf hall
  obtain ⟨m, hm⟩ : ∃ m, m = T.length := ⟨_, rfl⟩
  have HM := Lib.hid hm
  have HSm := Lib.hid (fun (W : World) (B1 : Nat) (k : Nat) (hk : k < T.length) (a : Option Addr) (c : Nat) (hr : RowM W B1 a T[k]) (hB1 : B1 ≤ W.heap.size) (hb : Below w.heap.size w W) => iSame W a A' h n' c cap' B1 B' T[k] M (hall _ (List.getElem_mem hk)) hM (by omega) hn' hr (h'.below hb hB') hB1 (by have := hb.size; omega))
  have HEnd := Lib.hid (fun hd => idx_end (T := T) (L := M) hd)
  have HAt := Lib.hid (fun k hk hd he => idx_at (T := T) (L := M) (k := k) hk hd he)
  generalize idxR T M = r at HEnd HAt ⊢
  rw [← hm] at hsm
  clear hT hx hn hrow hB hM hn' h' hB' hm hall
  go_enter Tryd.func15, Tryd.ntmps15
  go_wp2_with fail
  have c0 := HR.out.c0
  refine (HL.out _ HS.out).mono ?_
  rintro e w1 ⟨A1, cap1, rfl, hss, hb1⟩
  have hrr := ss_row hss
  have hbw := HS.out.trans (hb1.mono HS.out.size)
  rw [← HM.out] at hrr ⊢
  obtain ⟨b, S, s1, s2, s3⟩ := hrr
  have H1 := Lib.hid s1
  have H2 := Lib.hid s2
  have H3 := Lib.hid s3
  clear hss hb1 HR HS HL c0 s1 s2 s3
  go_wp2_with fail
  go_loopw [10] (fun i wr => ∃ k : Nat, k ≤ m ∧ i = .int .i64 k ∧ Below w1.heap.size w1 wr ∧ Hid (∀ j (hj : j < T.length), j < k → T[j] ≠ M)) (fun i _ => m - (intOf i).toNat)
  case atStart => exact ⟨0, Nat.zero_le _, rfl, Below.refl _ _, Lib.hid (fun j _ h => by omega)⟩
  case round =>
    obtain ⟨k, hk, rfl, hb, hne⟩ := hrel
    have hbs := hb.size
    have hbwr := hbw.trans (hb.mono hbw.size)
    by_cases hlt : k < m
    · have hkT : k < T.length := by rw [← HM.out]; exact hlt
      obtain ⟨rfl, hbl⟩ := H2.out (by omega)
      have hkS : k < S.length := by rw [H1.out]; exact hkT
      obtain ⟨c1, c2⟩ := H3.out k S[k] T[k] (List.getElem?_eq_getElem hkS) (List.getElem?_eq_getElem hkT)
      have c1' := (hb.cell (p := ⟨b, k, none⟩) (by show b < _; omega)).trans c1
      have HSk := Lib.hid (HSm.out wr w1.heap.size k hkT S[k].1 S[k].2 (c2.below hb (Nat.le_refl _)) hbs hbwr)
      have HAk := Lib.hid (fun he => HAt.out k hkT hne.out he)
      have HNk := Lib.hid (show T[k] ≠ M → Hid (∀ j (hj : j < T.length), j < k + 1 → T[j] ≠ M) from fun hh => Lib.hid (fun j hj h => by
        by_cases q : j = k
        · subst q; exact hh
        · exact hne.out j hj (by omega)))
      generalize S[k].1 = a at c1' HSk
      generalize S[k].2 = c at c1' HSk
      clear c1 c2 hkS
      obtain ⟨q, hq⟩ : ∃ q, q = sameD T[k] M := ⟨_, rfl⟩
      rw [← hq] at HSk
      have HQ := Lib.hid hq
      clear hq hne
      go_wp2_with fail
      refine HSk.out.mono ?_
      rintro e w2 ⟨rfl, hb2⟩
      have hb3 := hb.trans (hb2.mono hbs)
      have hbw3 := hbwr.trans (hb2.mono hbwr.size)
      clear HSk hb2
      cases q with
      | true =>
        have hr := HAk.out (by have := HQ.out; unfold sameD at this; exact of_decide_eq_true this.symm)
        have HR2 := Lib.hid hr
        clear hr HAk HNk
        go_wp2
        go_ret
        exact mkNum HR2.out.symm hbw3
      | false =>
        have hn2 := HNk.out (by have := HQ.out; unfold sameD at this; exact of_decide_eq_false this.symm)
        clear HAk HNk HQ
        go_wp2
        go_roundw
        case rel => exact ⟨k + 1, by omega, by go_num, hb3, hn2⟩
        case measure => (simp [intOf] <;> omega)
    · obtain rfl : k = m := by omega
      have hr := HEnd.out (fun j hj => hne.out j hj (by have := HM.out; omega))
      have HR2 := Lib.hid hr
      clear hr
      go_wp2
      go_ret
      exact mkNum HR2.out.symm hbwr

set_option maxHeartbeats 2000000 in
theorem sIndexOf (w : World) (A : Option Addr) (n cap B : Nat) (xs : List Int) (hx : xs.length = n) (hn : (n : Int) ≤ 9223372036854775807) (hrow : RowB w B A xs) (hB : B ≤ w.heap.size) (A' : Option Addr) (n' cap' B' : Nat) (M : List Dm) (hM : M.length = n') (hn' : (n' : Int) ≤ 9223372036854775807) (h' : RowM w B' A' M) (hB' : B' ≤ w.heap.size) :
    Calls Tryd.prog 29 #[.agg #[.slice A n cap], .slice A' n' cap'] w (Num (idxR (listR xs) M) w) := by
  have HL := Lib.hid (fun W (hb : Below w.heap.size w W) => sListTilings W A n cap B xs hx hn (hrow.below hb hB) (by have := hb.size; omega))
  have HR := Lib.hid (Rg.new w (.slice A n cap))
  have HS := Lib.hid (below_alloc1 w (.cells #[.slice A n cap] 26))
  have hsm := listR_small xs
  have hhf := halfR_le xs
  have hall := listR_half (xs := xs)
  generalize listR xs = T at HL hsm hall ⊢
  generalize halfR xs = h at HL hhf hall
  obtain ⟨m, hm⟩ : ∃ m, m = T.length := ⟨_, rfl⟩
  have HM := Lib.hid hm
  have HSm := Lib.hid (fun (W : World) (B1 : Nat) (k : Nat) (hk : k < T.length) (a : Option Addr) (c : Nat) (hr : RowM W B1 a T[k]) (hB1 : B1 ≤ W.heap.size) (hb : Below w.heap.size w W) => sSame W a A' h n' c cap' B1 B' T[k] M (hall _ (List.getElem_mem hk)) hM (by omega) hn' hr (h'.below hb hB') hB1 (by have := hb.size; omega))
  have HEnd := Lib.hid (fun hd => idx_end (T := T) (L := M) hd)
  have HAt := Lib.hid (fun k hk hd he => idx_at (T := T) (L := M) (k := k) hk hd he)
  generalize idxR T M = r at HEnd HAt ⊢
  rw [← hm] at hsm
  clear hx hn hrow hB hM hn' h' hB' hm hall
  go_enter Tryd.func29, Tryd.ntmps29
  go_wp2_with fail
  have c0 := HR.out.c0
  refine (HL.out _ HS.out).mono ?_
  rintro e w1 ⟨A1, cap1, rfl, hss, hb1⟩
  have hrr := ss_row hss
  have hbw := HS.out.trans (hb1.mono HS.out.size)
  rw [← HM.out] at hrr ⊢
  obtain ⟨b, S, s1, s2, s3⟩ := hrr
  have H1 := Lib.hid s1
  have H2 := Lib.hid s2
  have H3 := Lib.hid s3
  clear hss hb1 HR HS HL c0 s1 s2 s3
  go_wp2_with fail
  go_loopw [6] (fun i wr => ∃ k : Nat, k ≤ m ∧ i = .int .i64 k ∧ Below w1.heap.size w1 wr ∧ Hid (∀ j (hj : j < T.length), j < k → T[j] ≠ M)) (fun i _ => m - (intOf i).toNat)
  case atStart => exact ⟨0, Nat.zero_le _, rfl, Below.refl _ _, Lib.hid (fun j _ h => by omega)⟩
  case round =>
    obtain ⟨k, hk, rfl, hb, hne⟩ := hrel
    have hbs := hb.size
    have hbwr := hbw.trans (hb.mono hbw.size)
    by_cases hlt : k < m
    · have hkT : k < T.length := by rw [← HM.out]; exact hlt
      obtain ⟨rfl, hbl⟩ := H2.out (by omega)
      have hkS : k < S.length := by rw [H1.out]; exact hkT
      obtain ⟨c1, c2⟩ := H3.out k S[k] T[k] (List.getElem?_eq_getElem hkS) (List.getElem?_eq_getElem hkT)
      have c1' := (hb.cell (p := ⟨b, k, none⟩) (by show b < _; omega)).trans c1
      have HSk := Lib.hid (HSm.out wr w1.heap.size k hkT S[k].1 S[k].2 (c2.below hb (Nat.le_refl _)) hbs hbwr)
      have HAk := Lib.hid (fun he => HAt.out k hkT hne.out he)
      have HNk := Lib.hid (show T[k] ≠ M → Hid (∀ j (hj : j < T.length), j < k + 1 → T[j] ≠ M) from fun hh => Lib.hid (fun j hj h => by
        by_cases q : j = k
        · subst q; exact hh
        · exact hne.out j hj (by omega)))
      generalize S[k].1 = a at c1' HSk
      generalize S[k].2 = c at c1' HSk
      clear c1 c2 hkS
      obtain ⟨q, hq⟩ : ∃ q, q = sameD T[k] M := ⟨_, rfl⟩
      rw [← hq] at HSk
      have HQ := Lib.hid hq
      clear hq hne
      go_wp2_with fail
      refine HSk.out.mono ?_
      rintro e w2 ⟨rfl, hb2⟩
      have hb3 := hb.trans (hb2.mono hbs)
      have hbw3 := hbwr.trans (hb2.mono hbwr.size)
      clear HSk hb2
      cases q with
      | true =>
        have hr := HAk.out (by have := HQ.out; unfold sameD at this; exact of_decide_eq_true this.symm)
        have HR2 := Lib.hid hr
        clear hr HAk HNk
        go_wp2
        go_ret
        exact mkNum HR2.out.symm hbw3
      | false =>
        have hn2 := HNk.out (by have := HQ.out; unfold sameD at this; exact of_decide_eq_false this.symm)
        clear HAk HNk HQ
        go_wp2
        go_roundw
        case rel => exact ⟨k + 1, by omega, by go_num, hb3, hn2⟩
        case measure => (simp [intOf] <;> omega)
    · obtain rfl : k = m := by omega
      have hr := HEnd.out (fun j hj => hne.out j hj (by have := HM.out; omega))
      have HR2 := Lib.hid hr
      clear hr
      go_wp2
      go_ret
      exact mkNum HR2.out.symm hbwr
end Go.Proofs.YtmaghekcpopepaaDoor.Lst
