/- WyW in one text. -/
import Derived.Test.YtmenmepdmojnfaaGreatDoorMx28
import Derived.BigQuiet
import Derived.Deep.QuietTactic

namespace Go.Proofs.YtmenmepdmojnfaaGreatDoor.Wg
set_option linter.unusedVariables false
set_option linter.unusedSimpArgs false
set_option maxRecDepth 100000
open Go.RowKit Go.Proofs.YtmenmepdmojnfaaGreatDoor.Pure Go.Proofs.YtmenmepdmojnfaaGreatDoor.Cell Go.Proofs.YtmenmepdmojnfaaGreatDoor.Cels Go.Proofs.YtmenmepdmojnfaaGreatDoor.Dms Go.Proofs.YtmenmepdmojnfaaGreatDoor.Til Go.Proofs.YtmenmepdmojnfaaGreatDoor.Dss Go.Proofs.YtmenmepdmojnfaaGreatDoor.Flp Go.Joins
open Go.Proofs.YtmenmepdmojnfaaGreatDoor.Lst (halfR_le listR listR_small listR_half sListTilings idxR idx_at idx_end sIndexOf)
open Go.Proofs.YtmenmepdmojnfaaGreatDoor.Ext (SSP halfR allR allR_ok allR_not)
open Go.Proofs.YtmenmepdmojnfaaGreatDoor.Lis (append_any allT)
open Go.Proofs.YtmenmepdmojnfaaGreatDoor.Reg hiding Yes add_none RC rc_start

theorem list_all {xs : List Int} {k : Nat} (hk : k < (listR xs).length) : okR xs ∧ listR xs = allT xs := by
 by_cases ho : okR xs
 ·refine ⟨ho, ?_⟩
  unfold listR at hk ⊢
  split at hk
  ·rename_i h; rw [if_pos h, allR_ok ho]
  ·simp at hk
 ·unfold listR at hk
  rw [allR_not ho] at hk
  simp at hk
theorem RowIn.kept {W W' : World} {lo hi e size n g : Nat} {v : Value} {xs : List Value} (h : RowIn W lo hi e size v n xs) (hg : W.grownBy W' (some g)) (hb : g < lo) : RowIn W' lo hi e size v n xs := ⟨own_kept2 h.1 hg hb, h.2⟩
theorem ssIn_kept {W W' : World} {lo hi m cap h g : Nat} {A : Option Addr} {L : List (List Dm)} (k : SSIn W lo hi A m cap h L) (hg : W.grownBy W' (some g)) (hb : g < lo) : SSIn W' lo hi A m cap h L := by
 obtain ⟨S, k1, k2, k3, k4⟩ := k
 exact ⟨S, RowIn.kept k1 hg hb, k2, fun i s x hs hx => RowIn.kept (k3 i s x hs hx) hg hb, k4⟩
theorem LoL.on {w w' : World} {lo B B' m : Nat} {A : Option Addr} {ls : Nat → List Nat} (h : LoL w lo A m) (hr : RdL w B A m ls) (hb : Below B' w w') (hB : B ≤ B') : LoL w' lo A m := by
 refine ⟨h.1, fun b eA k hk s n c e a ha => h.2 b eA k hk s n c ?_ a ha⟩
 obtain ⟨b', h1, _⟩ := hr
 obtain ⟨q, hlt⟩ := h1 (by omega)
 rw [eA] at q
 injection q with q
 injection q with q
 subst q
 exact (hb.cell (p := ⟨b, k, none⟩) (by show b < _; omega)).symm.trans e
theorem way_step {all : List (List Dm)} {D : Nat → Int} {n i k : Nat} {F : List (Int × Int)} (hF : flipsR (all.getD i []) = F) (hk : k < F.length) (h1 : ∀ j (hj : j < F.length), j < k → D (idx all (flipL (all.getD i []) F[j].1 F[j].2)) ≠ (n : Int)) (h2 : D (idx all (flipL (all.getD i []) F[k].1 F[k].2)) = (n : Int)) :
  wayG all D (n + 1) i = F[k] :: wayG all D n (idx all (flipL (all.getD i []) F[k].1 F[k].2)) := by
 have hf : F.find? (fun c => decide (D (idx all (flipL (all.getD i []) c.1 c.2)) = (n : Int))) = some F[k] := by
  rw [List.find?_eq_some_iff_getElem]
  refine ⟨decide_eq_true h2, k, hk, rfl, fun j hj => ?_⟩
  rw [Bool.not_eq_true', decide_eq_false_iff_not]
  exact h1 j (by omega) hj
 show (match (flipsR (all.getD i [])).find? (fun c => decide (D (idx all (flipL (all.getD i []) c.1 c.2)) = (n : Int))) with | some c => _ | none => _) = _
 rw [hF, hf]
def WayR (T : List (List Dm)) (L M : List Dm) (cs : List (Int × Int)) (b : Bool) : Prop :=
 (∃ (i j : Nat) (hi : i < T.length) (hj : j < T.length) (D : Nat → Int), T[i] = L ∧ T[j] = M ∧ (∀ v, IsD (Ed (lnk T)) j v (D v)) ∧ ((0 ≤ D i ∧ D i ≤ (T.length : Int) ∧ b = true ∧ cs = wayG T D (D i).toNat i) ∨ (D i < 0 ∧ b = false ∧ cs = []))) ∨ ((L ∉ T ∨ M ∉ T) ∧ b = false ∧ cs = [])
theorem way_no {T : List (List Dm)} {L M : List Dm} (h : (∀ (i : Nat) (hi : i < T.length), T[i] ≠ L) ∨ ∀ (i : Nat) (hi : i < T.length), T[i] ≠ M) : WayR T L M [] false := by
 refine .inr ⟨?_, rfl, rfl⟩
 rcases h with h | h
 ·left; intro hm; obtain ⟨k, hk, e⟩ := List.getElem_of_mem hm; exact h k hk e
 ·right; intro hm; obtain ⟨k, hk, e⟩ := List.getElem_of_mem hm; exact h k hk e
def WayP (T : List (List Dm)) (L M : List Dm) (w : World) (e : Ending) (w' : World) : Prop := ∃ (cs : List (Int × Int)) (b : Bool) (A : Option Addr) (c : Nat), e = .returned (.tuple #[.slice A cs.length c, .bool b]) ∧ w'.ownsRow w.heap.size 67 2 (.slice A cs.length c) cs.length (rowC cs) ∧ WayR T L M cs b ∧ Below w.heap.size w w'
set_option maxHeartbeats 8000000 in
theorem sFlipWay (w : World) (A : Option Addr) (n cap B : Nat) (xs : List Int) (hx : xs.length = n) (hn : (n : Int) ≤ 9223372036854775807) (hrow : RowB w B A xs) (hB : B ≤ w.heap.size)
  (A1 : Option Addr) (n1 cap1 B1 : Nat) (L : List Dm) (hL : L.length = n1) (hn1 : (n1 : Int) ≤ 9223372036854775807) (h1 : RowM w B1 A1 L) (hB1 : B1 ≤ w.heap.size)
  (A2 : Option Addr) (n2 cap2 B2 : Nat) (M : List Dm) (hM : M.length = n2) (hn2 : (n2 : Int) ≤ 9223372036854775807) (h2 : RowM w B2 A2 M) (hB2 : B2 ≤ w.heap.size) :
  Calls Tryz.prog 33 #[.agg #[.slice A n cap], .slice A1 n1 cap1, .slice A2 n2 cap2] w (WayP (listR xs) L M w) := by
 obtain ⟨i0, hi0, hz0, hz1, hz2⟩ := info_parts Cels.cellInfo
 have HI1 := Lib.hid (fun W (hb : Below w.heap.size w W) => sIndexOf W A n cap B xs hx hn (hrow.below hb hB) (by have := hb.size; omega) A1 n1 cap1 B1 L hL hn1 (h1.below hb hB1) (by have := hb.size; omega))
 have HI2 := Lib.hid (fun W (hb : Below w.heap.size w W) => sIndexOf W A n cap B xs hx hn (hrow.below hb hB) (by have := hb.size; omega) A2 n2 cap2 B2 M hM hn2 (h2.below hb hB2) (by have := hb.size; omega))
 have HLs := Lib.hid (fun W (hb : Below w.heap.size w W) => sListTilings W A n cap B xs hx hn (hrow.below hb hB) (by have := hb.size; omega))
 have hS := below_alloc1 w (.cells #[.slice A n cap] 26)
 have hR := Rg.new w (.slice A n cap)
 have hsm := listR_small xs
 have HHf := Lib.hid (listR_half (xs := xs))
 have hhf := halfR_le xs
 have HAll := Lib.hid (fun k (hk : k < (listR xs).length) => (list_all hk).1)
 have HAll2 := Lib.hid (fun k (hk : k < (listR xs).length) => (list_all hk).2)
 unfold SSP at HLs
 generalize listR xs = T at HI1 HI2 HLs hsm HHf HAll HAll2 ⊢
 generalize halfR xs = h at HLs HHf hhf
 have q1 := idx_two T L
 have q2 := idx_two T M
 have HLn := Lib.hid (show ∀ u, (lnk T u).length ≤ 100000 from fun u => Nat.le_trans (lnk_length T u) (by omega))
 obtain ⟨m, hm⟩ : ∃ m, T.length = m := ⟨_, rfl⟩
 have HLt := Lib.hid (show ∀ u v, v ∈ lnk T u → v < m from fun u v hv => hm ▸ lnk_lt hv)
 have HM := Lib.hid hm
 rw [hm] at HLs hsm
 clear hx hn hrow hB hL hn1 h1 hB1 hM hn2 h2 hB2 hm
 go_enter Tryz.func33, Tryz.ntmps33
 go_upto_region 1 with fail
 generalize w.alloc (.cells #[.slice A n cap] 26) = W0 at hS hR ⊢
 have hO0 := World.ownsRow_made (base := w.heap.size) (e := 67) (size := 2) W0 #[] 0 hS.size (by unfold maxLen; omega) rfl
 have hb0 := below_alloc1 W0 (.cells #[] 67)
 have HO1 := Lib.hid hO0
 have HB1 := Lib.hid (hS.trans (hb0.mono hS.size))
 have HR1 := Lib.hid (hR.on hb0)
 have hg1 : W0.heap.size < (W0.alloc (.cells #[] 67)).heap.size := by simp
 have hg2 := hS.size
 clear hS hR hO0 hb0
 go_upto_region 2 with fail
 generalize W0.alloc (.cells #[] 67) = W1 at HO1 HB1 HR1 hg1 ⊢
 generalize W0.heap.size = g0 at HO1 hg1 hg2 ⊢
 have c0 := HR1.out.c0
 go_wp2_with fail
 refine (HI1.out _ HB1.out).mono ?_
 rintro e w1 ⟨rfl, hb1⟩
 have B1 := Lib.hid (HB1.out.trans (hb1.mono HB1.out.size))
 have R1 := Lib.hid (HR1.out.on hb1)
 have O1 := Lib.hid (own_below HO1.out hb1 (Nat.le_refl _))
 have hg1 := Nat.lt_of_lt_of_le hg1 hb1.size
 clear hb1 HB1 HR1 HO1 c0 HI1
 have c0 := R1.out.c0
 go_wp2_with fail
 refine (HI2.out _ B1.out).mono ?_
 rintro e w2 ⟨rfl, hb2⟩
 have B2 := Lib.hid (B1.out.trans (hb2.mono B1.out.size))
 have R2 := Lib.hid (R1.out.on hb2)
 have O2 := Lib.hid (own_below O1.out hb2 (Nat.le_refl _))
 have hg1 := Nat.lt_of_lt_of_le hg1 hb2.size
 clear hb2 B1 R1 O1 c0 HI2
 rcases q1 with ⟨i, hi, ei, e1⟩ | ⟨no, e1⟩
 ·rcases q2 with ⟨j, hj, ej, e2⟩ | ⟨no, e2⟩
  ·have ho := HAll.out i hi
   have hT := HAll2.out i hi
   have HF := Lib.hid (show ∀ D, (∀ v, IsD (Ed (lnk T)) j v (D v)) → (0 ≤ D i → D i ≤ (T.length : Int) → WayR T L M (wayG T D (D i).toNat i) true) ∧ (D i < 0 → WayR T L M [] false) from fun D hD =>
    ⟨fun h h' => .inl ⟨i, j, hi, hj, D, ei, ej, hD, .inl ⟨h, h', rfl, rfl⟩⟩, fun h => .inl ⟨i, j, hi, hj, D, ei, ej, hD, .inr ⟨h, rfl, rfl⟩⟩⟩)
   have him : i < m := by rw [← HM.out]; exact hi
   have hjm : j < m := by rw [← HM.out]; exact hj
   have hiI : (i : Int) < (m : Int) := by omega
   rw [e1, e2]
   clear hi hj ei ej e1 e2 HAll HAll2
   have c0 := R2.out.c0
   go_wp2_with fail
   refine (HLs.out _ B2.out).mono ?_
   rintro e w3 ⟨A3, c3, rfl, hss, hb3⟩
   have B3 := Lib.hid (B2.out.trans (hb3.mono B2.out.size))
   have O3 := Lib.hid (own_below O2.out hb3 (Nat.le_refl _))
   have HSS := Lib.hid hss
   have hw23 := hb3.size
   clear hss hb3 HLs B2 R2 O2 c0
   go_wp2_with fail
   refine (sLinks w3 A3 m c3 w3.heap.size h T HM.out (by omega) HHf.out (by omega) (ss_row HSS.out) (Nat.le_refl _)).mono ?_
   rintro e w4 ⟨A4, c4, rfl, hrl, hlo, hb4⟩
   have B4 := Lib.hid (B3.out.trans (hb4.mono B3.out.size))
   have O4 := Lib.hid (own_below O3.out hb4 (Nat.le_refl _))
   have HSS4 := Lib.hid (HSS.out.on hb4)
   have HRl := Lib.hid hrl
   have HLo := Lib.hid hlo
   have hw34 := hb4.size
   clear hrl hlo hb4 B3 O3 HSS
   go_wp2_with fail
   refine (sDistances w4 A4 m c4 w4.heap.size (lnk T) (by omega) HRl.out (Nat.le_refl _) j hjm HLt.out HLn.out).mono ?_
   rintro e w5 ⟨bd, D, rfl, hnr, hD, hDm, hb5⟩
   have B5 := Lib.hid (B4.out.trans (hb5.mono B4.out.size))
   have O5 := Lib.hid (own_below O4.out hb5 (Nat.le_refl _))
   have HAl := Lib.hid (show ∀ W, w5.grownBy W (some g0) → RowSS W W.heap.size A3 m h T from fun W hg => ss_row (ssIn_kept (HSS4.out.on hb5) hg (by omega)))
   have HLk := Lib.hid (show ∀ W, w5.grownBy W (some g0) → RdL W W.heap.size A4 m (lnk T) from fun W hg =>
    (((HRl.out.below hb5 (Nat.le_refl _)).mono hb5.size).kept (HLo.out.on HRl.out hb5 (Nat.le_refl _)) hg (by omega) (Nat.le_refl _)).mono hg.size)
   have HDi := Lib.hid (show ∀ W, w5.grownBy W (some g0) → NumR W w4.heap.size bd m D from fun W hg => hnr.kept hg (fun g e => by injection e with e; have := hnr.lt; omega))
   have hw45 := hb5.size
   obtain ⟨hF1, hF2⟩ := HF.out D hD
   have cd := hnr.cell him
   subst hT
   have hDr : ∀ v, v < (allT xs).length → IsD (Ed (lnk (allT xs))) v j (D v) := fun v _ => isD_rev (ed_symm ho) (hD v)
   have hjT : j < (allT xs).length := by rw [HM.out]; exact hjm
   have HZe := Lib.hid (show ∀ v, v < (allT xs).length → (D v = 0 ↔ v = j) from fun v hv => ⟨fun e => isD_zero (e ▸ hDr v hv), fun e => by subst e; exact isD_uniq (hD v) isD_self⟩)
   have HSp := Lib.hid (show ∀ (v : Nat) (hv : v < (allT xs).length) (n : Nat), D v = ((n + 1 : Nat) : Int) → ∃ (k : Nat) (hk : k < (flipsR (allT xs)[v]).length), D (idx (allT xs) (flipL (allT xs)[v] (flipsR (allT xs)[v])[k].1 (flipsR (allT xs)[v])[k].2)) = (n : Int) from fun v hv n e => by
    obtain ⟨a, ea, da⟩ := isD_step (e ▸ hDr v hv)
    obtain ⟨_, ha, c, hc, ef⟩ := (ed_iff ho).1 ea
    obtain ⟨k, hk, rfl⟩ := List.getElem_of_mem hc
    refine ⟨k, hk, ?_⟩
    rw [ef, idx_one (allT_nodup xs) ha]
    exact isD_uniq (hDr a ha) da)
   have HMp := Lib.hid (show ∀ (v : Nat) (hv : v < (allT xs).length), lnk (allT xs) v = (flipsR (allT xs)[v]).map fun c => idx (allT xs) (flipL (allT xs)[v] c.1 c.2) from fun v hv => lnk_map ho hv)
   have HIx := Lib.hid (show ∀ (v : Nat) (hv : v < (allT xs).length) (k : Nat) (hk : k < (flipsR (allT xs)[v]).length), idx (allT xs) (flipL (allT xs)[v] (flipsR (allT xs)[v])[k].1 (flipsR (allT xs)[v])[k].2) < (allT xs).length from fun v hv k hk => (flip_at ho hv (List.getElem_mem hk)).1)
   have HDm := Lib.hid hDm
   generalize allT xs = T at *
   clear hnr hD hDm hb5 hDr hjT HF HLt HLn HRl HLo HSS4 O4 B4 ho
   by_cases hneg : D i < 0
   ·have HFn := Lib.hid (hF2 hneg)
    clear hF1 hF2 HZe HSp HMp HIx HAl HLk HDi
    generalize D i = d0 at cd hneg
    go_wp2
    exact bodyPost_ret (v := .tuple #[.slice (some ⟨g0, 0, none⟩) 0 0, .bool false]) (by simp [results, Tryz.results33, go_sem]) rfl ⟨[], false, _, 0, rfl, O5.out, HFn.out, B5.out⟩
   ·have HFn := Lib.hid (hF1 (by omega) (by have := HDm.out i; have := HM.out; omega))
    obtain ⟨n0, hn0⟩ : ∃ n0 : Nat, D i = (n0 : Int) := ⟨(D i).toNat, by omega⟩
    have hn0m : n0 ≤ m := by have := HDm.out i; omega
    rw [hn0, Int.toNat_natCast] at HFn
    have HD0 := Lib.hid hn0
    have hneg2 : ¬ ((n0 : Int) < 0) := by omega
    rw [hn0] at cd
    clear hF1 hF2 hneg hn0
    obtain ⟨Wt, hWt⟩ : ∃ Wt, wayG T D n0 i = Wt := ⟨_, rfl⟩
    rw [hWt] at HFn
    have HWt := Lib.hid hWt
    obtain ⟨b4, h41, _⟩ := HLk.out w5 (World.grownBy.refl _ _)
    obtain ⟨rfl, _⟩ := h41 (by omega)
    have HCk := Lib.hid (show ∀ W, w5.grownBy W (some g0) → ∀ v, v < m → ∃ s c, W.cell? ⟨b4, v, none⟩ = some (.slice s (lnk T v).length c) ∧ RdN W W.heap.size s (lnk T v) from fun W hg v hv => by
     obtain ⟨b', h1, h2⟩ := HLk.out W hg
     obtain ⟨e, _⟩ := h1 (by omega)
     injection e with e
     injection e with e
     subst e
     exact h2 v hv)
    have hw5 := B5.out.size
    clear h41 hWt HLk
    go_wp2_with fail
    clear cd hneg2
    go_loopg [8, 9] n0 (fun gg so si wr => ∃ (i go co : Nat) (acc : List (Int × Int)), i < m ∧ si = .int .i64 i ∧ so = .slice (some ⟨go, 0, none⟩) acc.length co ∧ acc.length + gg = n0 ∧ Hid (D i = (gg : Int) ∧ acc ++ wayG T D gg i = Wt) ∧ Hid (wr.ownsRow w.heap.size 67 2 (.slice (some ⟨go, 0, none⟩) acc.length co) acc.length (rowC acc)) ∧ Hid (w5.grownBy wr (some g0)) ∧ Hid (go = g0 ∨ w5.heap.size ≤ go))
    case atStart => exact ⟨i, g0, 0, [], him, rfl, rfl, by simp, Lib.hid ⟨HD0.out, by rw [List.nil_append]; exact HWt.out⟩, O5, Lib.hid (World.grownBy.refl _ _), Lib.hid (.inl rfl)⟩
    case round =>
     clear O5 HD0 HWt him hiI
     obtain ⟨i, go, co, acc, him, rfl, rfl, hacc, HI, HO, HG, HGG⟩ := hrel
     have hiT : i < T.length := by rw [HM.out]; exact him
     have hgo := HO.out.lt go rfl
     have HBw := Lib.hid (B5.out.grown HG.out hw5 (fun g e => by injection e with e; omega))
     by_cases h0 : gk = 0
     ·have hij : i = j := (HZe.out i hiT).1 (by rw [HI.out.1, h0]; rfl)
      have hne : ((i : Int) != (j : Int)) = false := by rw [hij]; simp
      have hacc2 : acc = Wt := by have := HI.out.2; rw [h0] at this; simpa [wayG] using this
      have HFe := Lib.hid (show WayR T L M acc true by rw [hacc2]; exact HFn.out)
      clear HI hij hacc2
      go_wp2
      exact bodyPost_ret (v := .tuple #[.slice (some ⟨go, 0, none⟩) acc.length co, .bool true]) (by simp [results, Tryz.results33, go_sem]) rfl ⟨acc, true, _, co, rfl, HO.out, HFe.out, HBw.out⟩
     ·obtain ⟨np, rfl⟩ : ∃ np, gk = np + 1 := ⟨gk - 1, by omega⟩
      have hne : ((i : Int) != (j : Int)) = true := by
       rw [bne_iff_ne]
       intro e
       have := (HZe.out i hiT).2 (by omega)
       rw [HI.out.1] at this; omega
      obtain ⟨bA, SA, s1, s2, s3⟩ := HAl.out wr HG.out
      obtain ⟨rfl, _⟩ := s2 (by omega)
      obtain ⟨sa, hsa⟩ : ∃ sa, SA[i]? = some sa := ⟨_, List.getElem?_eq_getElem (by omega)⟩
      obtain ⟨ca, ra⟩ := s3 i sa T[i] hsa (List.getElem?_eq_getElem hiT)
      have HFo := Lib.hid (sFlipsOf wr sa.1 h sa.2 wr.heap.size T[i] (HHf.out _ (List.getElem_mem hiT)) (by omega) ra (Nat.le_refl _))
      have HWs := Lib.hid (fun F k hF hk a b => way_step (all := T) (D := D) (n := np) (i := i) (F := F) (k := k) hF hk a b)
      rw [getD_at hiT] at HWs
      obtain ⟨F, hF⟩ : ∃ F, flipsR T[i] = F := ⟨_, rfl⟩
      have hnf := flipsTo_length T[i] 64
      rw [flipsTo_all, hF] at hnf
      rw [hF] at HFo
      have HSi := Lib.hid (show ∀ n : Nat, D i = ((n + 1 : Nat) : Int) → ∃ (k : Nat) (hk : k < F.length), D (idx T (flipL (T[i]'hiT) F[k].1 F[k].2)) = (n : Int) from by subst hF; exact HSp.out i hiT)
      have HMi := Lib.hid (show lnk T i = F.map fun c => idx T (flipL (T[i]'hiT) c.1 c.2) from by subst hF; exact HMp.out i hiT)
      have HXi := Lib.hid (show ∀ (k : Nat) (hk : k < F.length), idx T (flipL (T[i]'hiT) F[k].1 F[k].2) < T.length from by subst hF; exact HIx.out i hiT)
      have HFe := Lib.hid hF
      obtain ⟨nf, hnf2⟩ : ∃ nf, F.length = nf := ⟨_, rfl⟩
      have HNf := Lib.hid hnf2
      rw [hnf2] at hnf
      unfold Cels.NbPost at HFo
      rw [hnf2] at HFo
      have hiI : (i : Int) < (m : Int) := by omega
      clear s1 s2 s3 ra hF hnf2 h0 hsa
      go_wp2_with fail
      refine HFo.out.mono ?_
      rintro e w6 ⟨Af, cf, rfl, hownf, hb6⟩
      have HG6 := Lib.hid (grown_two HG.out (grown_bel (g := g0) hb6) (.inl rfl))
      have HO6 := Lib.hid (own_below HO.out hb6 (Nat.le_refl _))
      obtain ⟨bf, off, hfA, hfC⟩ := rowC_own hownf
      have HfA := Lib.hid (fun (h0 : 0 < nf) => hfA (by rw [HNf.out]; exact h0))
      have HfC := Lib.hid (show ∀ W, Below w6.heap.size w6 W → ∀ k (hk : k < F.length), W.cell? ⟨bf, off + k * 2, none⟩ = some (.int .i64 F[k].1) ∧ W.cell? ⟨bf, off + k * 2 + 1, none⟩ = some (.int .i64 F[k].2) from fun W hb k hk => by
       obtain ⟨c1, c2⟩ := hfC k _ (List.getElem?_eq_getElem hk)
       have hl := (hfA (by omega)).2
       exact ⟨(hb.cell (p := ⟨bf, off + k * 2, none⟩) hl).trans c1, (hb.cell (p := ⟨bf, off + k * 2 + 1, none⟩) hl).trans c2⟩)
      clear HFo hownf hb6 hfA hfC ca hne HG HO
      go_wp2_with fail
      go_loopg [8, 9, 15] nf (fun gi so si sk wr => ∃ k : Nat, k + gi = nf ∧ sk = .int .i64 k ∧ so = .slice (some ⟨go, 0, none⟩) acc.length co ∧ si = .int .i64 i ∧ Hid (∀ k' (hk' : k' < F.length), k' < k → D (idx T (flipL (T[i]'hiT) F[k'].1 F[k'].2)) ≠ (np : Int)) ∧ Hid (Below w6.heap.size w6 wr))
      case atStart => exact ⟨0, by omega, rfl, rfl, rfl, Lib.hid (fun k' hk' h => by omega), Lib.hid (Below.refl _ _)⟩
      case round =>
       obtain ⟨k, hgk, rfl, rfl, rfl, HN, HB⟩ := hrel
       by_cases hkn : k < nf
       ·obtain ⟨rfl, _⟩ := HfA.out (by omega)
        have hkF : k < F.length := by rw [HNf.out]; exact hkn
        have HGr := Lib.hid (grown_two HG6.out (grown_bel (g := g0) HB.out) (.inl rfl))
        have HOr := Lib.hid (own_below HO6.out HB.out (Nat.le_refl _))
        have HVk := Lib.hid (show ∀ (k : Nat) (hk : k < F.length), (lnk T i)[k]'(by rw [HMi.out, List.length_map]; exact hk) = idx T (flipL (T[i]'hiT) F[k].1 F[k].2) from fun k hk => by simp only [HMi.out, List.getElem_map])
        obtain ⟨sl, cl, ck, gl, hsl, hcl⟩ := HCk.out wr HGr.out i him
        have hln : (lnk T i).length = nf := by rw [HMi.out, List.length_map, HNf.out]
        obtain ⟨rfl, _⟩ := hsl (by omega)
        have cv := hcl k (by omega)
        have hv : (lnk T i)[k]'(by omega) = idx T (flipL (T[i]'hiT) F[k].1 F[k].2) := by
         simp only [HMi.out, List.getElem_map]
        rw [hv] at cv
        rw [hln] at ck
        obtain ⟨f1, f2⟩ := HfC.out wr HB.out k hkF
        have hvm := HXi.out k hkF
        rw [HM.out] at hvm
        have cdv := (HDi.out wr HGr.out).cell hvm
        have cdi := (HDi.out wr HGr.out).cell him
        rw [HI.out.1] at cdi
        have HNk := Lib.hid (fun h1 => (HWs.out F k HFe.out hkF HN.out h1))
        have HNn := Lib.hid (show D (idx T (flipL (T[i]'hiT) F[k].1 F[k].2)) ≠ (np : Int) → ∀ k' (hk' : k' < F.length), k' < k + 1 → D (idx T (flipL (T[i]'hiT) F[k'].1 F[k'].2)) ≠ (np : Int) from fun h1 k' hk' hlt => by
         by_cases e : k' = k
         ·subst e; exact h1
         ·exact HN.out k' hk' (by omega))
        obtain ⟨v, hv2⟩ : ∃ v, idx T (flipL (T[i]'hiT) F[k].1 F[k].2) = v := ⟨_, rfl⟩
        rw [hv2] at cv hvm cdv HNk HNn
        obtain ⟨x, hx⟩ : ∃ x, F[k] = x := ⟨_, rfl⟩
        rw [hx] at f1 f2 HNk
        obtain ⟨x, y⟩ := x
        simp only at f1 f2
        have hvI : (v : Int) < (m : Int) := by omega
        have hkI : (k : Int) < (nf : Int) := by omega
        have hw : IntKind.i64.wrap (((np + 1 : Nat) : Int) - 1) = (np : Int) := by rw [IntKind.wrap_i64]; omega
        have HDv := Lib.hid (rfl : D v = D v)
        have HVx := Lib.hid hv2
        clear HN hsl hcl hln hv hv2 hx
        by_cases hit : D v = (np : Int)
        ·rw [hit] at cdv
         have heq : ((np : Int) == (np : Int)) = true := by simp
         go_upto_region 16 with fail
         go_quiet (fail)
         have HB7 := Lib.hid (drewBelow HB.out nq)
         have HG7 := Lib.hid (grown_two HG6.out (grown_bel (g := g0) HB7.out) (.inl rfl))
         have HO7 := Lib.hid (own_below HO6.out HB7.out (Nat.le_refl _))
         have e1 : (wr.drewN nq).cell? ⟨bf, off + k * 2, none⟩ = some (.int .i64 x) := f1
         have e2 : (wr.drewN nq).cell? ⟨bf, off + k * 2 + 1, none⟩ = some (.int .i64 y) := f2
         have HWp := Lib.hid (HNk.out hit)
         have HDv2 := Lib.hid hit
         have hsz7 := HB7.out.size
         clear HB HGr HOr ck cv cdv cdi f1 f2 heq hw HNk HNn hit HDv
         generalize wr.drewN nq = W7 at HB7 HG7 HO7 e1 e2 hsz7 ⊢
         have hw7 : w.heap.size ≤ (W7.alloc (.cells #[.int .i64 x, .int .i64 y] 67)).heap.size := by have := HG7.out.size; simp; omega
         go_upto_region 18 with (first
          | (at_builtin; refine append_any _ rfl _ _ 31 rfl w.heap.size 67 i0 (.agg #[.int .i64 0, .int .i64 0]) 2 16 Tryz.underlying31 hi0 hz0 hz1 hz2 rfl (by decide) go acc.length co (rowC acc) (by rfl) (HO7.out.alloc _) ⟨W7.heap.size, 0, none⟩ 1 1 [.int .i64 x, .int .i64 y] (by rfl) rfl (World.news_of_block (cs := #[.int .i64 x, .int .i64 y]) (t := 67) (fr := (0, 0)) (heap_alloc_new W7 _)) (by simp [Value.oneCell']) (by unfold maxLen; omega) (by omega) hw7 ?_; intro g8 c8 w8 hown8 hgr8 hat8 hlt8))
         have HG8 := Lib.hid (grown_two (grown_two HG7.out (grown_bel (g := g0) (below_alloc1 W7 (.cells #[.int .i64 x, .int .i64 y] 67))) (.inl rfl)) hgr8 HGG.out)
         have HGG8 := Lib.hid (show g8 = g0 ∨ w5.heap.size ≤ g8 by
          have := HG7.out.size
          rcases hat8 with q | q
          ·rw [q]; exact HGG.out
          ·right; rw [q]; simp; omega)
         have HO8 := Lib.hid (show w8.ownsRow w.heap.size 67 2 (.slice (some ⟨g8, 0, none⟩) (acc ++ [(x, y)]).length c8) (acc ++ [(x, y)]).length (rowC (acc ++ [(x, y)])) by
          rw [rowC_snoc, List.length_append]; exact hown8)
         have HW8 := Lib.hid (show (acc ++ [(x, y)]) ++ wayG T D np v = Wt by
          have := HI.out.2
          rw [HWp.out] at this
          rw [List.append_assoc]; exact this)
         obtain ⟨sl', cl', ck', gl', hsl', hcl'⟩ := HCk.out w8 HG8.out i him
         have hln : (lnk T i).length = nf := by rw [HMi.out, List.length_map, HNf.out]
         obtain ⟨rfl, _⟩ := hsl' (by omega)
         have cv' := hcl' k (by omega)
         rw [HVk.out k hkF] at cv'
         rw [hln] at ck'
         rw [HVx.out] at cv'
         clear hown8 hgr8 hat8 HO7 HG7 HB7 HWp hw7 hsl' hcl' hln e1 e2
         go_wp2
         go_roundg np
         case measure => omega
         case rel => exact ⟨v, g8, c8, acc ++ [(x, y)], hvm, rfl, by rw [List.length_append]; rfl, by rw [List.length_append, List.length_singleton]; omega, Lib.hid ⟨HDv2.out, HW8.out⟩, HO8, HG8, HGG8⟩
        ·have HN2 := Lib.hid (HNn.out hit)
         obtain ⟨dv, hdv⟩ : ∃ dv, D v = dv := ⟨_, rfl⟩
         rw [hdv] at cdv hit
         have heq : (dv == (np : Int)) = false := by rw [beq_eq_false_iff_ne]; exact hit
         clear HNn HNk hit hdv HDv
         go_upto_region 16 with fail
         go_quiet (fail)
         go_wp2
         go_roundg (gk - 1)
         case measure => omega
         case rel => exact ⟨k + 1, by omega, by go_num, rfl, rfl, HN2, Lib.hid (drewBelow HB.out _)⟩
       ·exfalso
        obtain ⟨k', hk', e⟩ := HSi.out np HI.out.1
        exact HN.out k' hk' (by rw [HNf.out] at hk'; omega) e
  ·have HF := Lib.hid (way_no (L := L) (.inr no))
   rw [e1, e2]
   clear no e1 e2 ei
   go_wp2
   exact bodyPost_ret (v := .tuple #[.slice (some ⟨g0, 0, none⟩) 0 0, .bool false]) (by simp [results, Tryz.results33, go_sem]) rfl ⟨[], false, _, 0, rfl, O2.out, HF.out, B2.out⟩
 ·have HF := Lib.hid (way_no (M := M) (.inl no))
  rw [e1]
  clear no e1 q2
  go_wp2
  exact bodyPost_ret (v := .tuple #[.slice (some ⟨g0, 0, none⟩) 0 0, .bool false]) (by simp [results, Tryz.results33, go_sem]) rfl ⟨[], false, _, 0, rfl, O2.out, HF.out, B2.out⟩
end Go.Proofs.YtmenmepdmojnfaaGreatDoor.Wg
