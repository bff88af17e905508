/- WhiteAround, Deficit, FreeBlacks, WitnessOf and IsProofOf, pure: over lists of cells: no program here. -/
import Derived.Test.YtgkgdgchkhdgjaaDefD
import Derived.Test.YtgkgdgchkhdgjaaDefP
import Derived.Test.YtgkgdgchkhdgjaaMgWay
namespace Go.Proofs.Ytgkgdgchkhdgjaa.Def
set_option linter.unusedVariables false
set_option linter.unusedSimpArgs false
open Go.RowKit Go.Proofs.Ytgkgdgchkhdgjaa.Base Go.Proofs.Ytgkgdgchkhdgjaa.Pure Go.Proofs.Ytgkgdgchkhdgjaa.Cell Go.Proofs.Ytgkgdgchkhdgjaa.Dom Go.Proofs.Ytgkgdgchkhdgjaa.Sets Go.Proofs.Ytgkgdgchkhdgjaa.Kun Go.Proofs.Ytgkgdgchkhdgjaa.KuL Go.Proofs.Ytgkgdgchkhdgjaa.Mat Go.Joins
open Go.Proofs.Ytgkgdgchkhdgjaa.Cnt (adj adj_comm gR)

/-- FreeBlacks. -/
def freeR (xs : List Int) : Int := if okRB xs then (freeN xs : Int) else 0
theorem freeR_ge (xs : List Int) : 0 ≤ freeR xs := by unfold freeR; split <;> omega
/-- WitnessOf. -/
noncomputable def witR (xs : List Int) : List (Int × Int) := if okRB xs then (witN xs).map plc else []

theorem plc_eq {a b : Nat} (h : plc a = plc b) : a = b := by
  unfold plc at h
  injection h with h1 h2
  omega
theorem map_nodup {S : List Nat} (h : S.Nodup) : (S.map plc).Nodup := by
  unfold List.Nodup at h ⊢
  rw [List.pairwise_map]
  exact h.imp (fun {a b} hab e => hab (plc_eq e))
theorem pl_mem {S : List Nat} (h : S.Nodup) (h64 : ∀ u ∈ S, u < 64) : (pl fun u => decide (u ∈ S)).length = S.length := by
  apply Nat.le_antisymm
  · exact List.Nodup.length_le_of_subset (pl_nodup _) (fun u hu => of_decide_eq_true (mem_pl.1 hu).2)
  · exact List.Nodup.length_le_of_subset h (fun u hu => mem_pl.2 ⟨h64 u hu, decide_eq_true hu⟩)
section
variable {xs : List Int}
theorem blk_iff {u : Nat} : Blk xs u = true ↔ gR xs u = true ∧ col u = true := by unfold Blk; rw [Bool.and_eq_true]
theorem blk64 {u : Nat} (h : Blk xs u = true) : u < 64 := by
  by_cases r : u < 64
  · exact r
  · rw [blk_iff, Cnt.gR_out xs u (by omega)] at h; cases h.1
theorem okBl_map (ho : okR xs) {S : List Nat} (hS : ∀ u ∈ S, Blk xs u = true) : okBl xs (S.map plc) = true := by
  rw [okBl_iff]
  refine ⟨okRB_iff.2 ho, fun c hc => ?_⟩
  obtain ⟨u, hu, rfl⟩ := List.mem_map.1 hc
  have hb := hS u hu
  have h64 := blk64 hb
  rw [blk_iff] at hb
  exact ⟨by rw [reg_plc ho h64]; exact hb.1, (col_black h64).trans hb.2⟩
theorem whtR_map (ho : okR xs) {S : List Nat} (hS : ∀ u ∈ S, Blk xs u = true) : whtR xs (S.map plc) = (pl (arB (gR xs) fun u => decide (u ∈ S))).map plc := by
  rw [whtR_ok (okBl_map ho hS), idl_cells, List.filter_map]
  congr 1
  unfold idl
  rw [if_pos (okRB_iff.2 ho)]
  unfold Cnt.idxs pl
  rw [List.filter_filter]
  refine List.filter_congr (fun w hw => ?_)
  have hw := List.mem_range.1 hw
  rw [Bool.eq_iff_iff, Bool.and_eq_true, arB_iff]
  have hk : (arL (S.map plc) ∘ plc) w = true ↔ ∃ u, u < 64 ∧ decide (u ∈ S) = true ∧ adj u w = true := by
    show arL (S.map plc) (plc w) = true ↔ _
    unfold arL
    rw [List.any_map, List.any_eq_true]
    constructor
    · rintro ⟨u, hu, h⟩
      have h64 := blk64 (hS u hu)
      refine ⟨u, h64, decide_eq_true hu, ?_⟩
      rw [adj_comm]
      exact (nb_adj hw h64).symm.trans h
    · rintro ⟨u, h64, hu, h⟩
      rw [adj_comm] at h
      exact ⟨u, of_decide_eq_true hu, (nb_adj hw h64).trans h⟩
  rw [hk]
  exact And.comm
theorem defR_map (ho : okR xs) {S : List Nat} (hn : S.Nodup) (hS : ∀ u ∈ S, Blk xs u = true) : defR xs (S.map plc) = (S.length : Int) - ((pl (arB (gR xs) fun u => decide (u ∈ S))).length : Int) := by
  rw [defR_ok (okBl_map ho hS), whtR_map ho hS, difN_nodup (map_nodup hn), List.length_map, List.length_map]
/-- no set has a greater deficit. -/
theorem defR_le (ho : okR xs) {S : List Nat} (hn : S.Nodup) (hS : ∀ u ∈ S, Blk xs u = true) : defR xs (S.map plc) ≤ freeR xs := by
  have h := deficit_le (joined_max xs).1 (P := fun u => decide (u ∈ S)) (fun u hu => hS u (of_decide_eq_true hu))
  rw [pl_mem hn (fun u hu => blk64 (hS u hu))] at h
  rw [defR_map ho hn hS]
  unfold freeR freeN
  rw [if_pos (okRB_iff.2 ho)]
  omega
theorem wit_blk {u : Nat} (h : u ∈ witN xs) : Blk xs u = true := (((witB_iff xs u).1 (mem_pl.1 h).2).blk (joined_max xs).1).2
theorem witN_nodup : (witN xs).Nodup := pl_nodup _
theorem wit_around : (pl (arB (gR xs) fun u => decide (u ∈ witN xs))) = pl (arB (gR xs) (witB xs)) := by
  congr 1
  congr 1
  funext u
  rw [Bool.eq_iff_iff, decide_eq_true_eq]
  unfold witN
  rw [mem_pl]
  exact ⟨fun h => h.2, fun h => ⟨(((witB_iff xs u).1 h).blk (joined_max xs).1).1, h⟩⟩
theorem witR_ok (ho : okR xs) : witR xs = (witN xs).map plc := by unfold witR; rw [if_pos (okRB_iff.2 ho)]
theorem witR_not (ho : ¬ okR xs) : witR xs = [] := by unfold witR; rw [if_neg (fun h => ho (okRB_iff.1 h))]
/-- what is reached has the greatest deficit. -/
theorem defR_wit (ho : okR xs) : defR xs (witR xs) = freeR xs := by
  have h := wit_deficit xs
  rw [witR_ok ho, defR_map ho witN_nodup (fun u hu => wit_blk hu), wit_around]
  unfold freeR
  rw [if_pos (okRB_iff.2 ho)]
  omega
theorem whtR_wit (ho : okR xs) : ((whtR xs (witR xs)).length : Int) = ((witR xs).length : Int) - freeR xs := by
  have h := wit_deficit xs
  rw [witR_ok ho, whtR_map ho (fun u hu => wit_blk hu), wit_around, List.length_map, List.length_map]
  unfold freeR
  rw [if_pos (okRB_iff.2 ho)]
  omega
theorem prfB_wit (ho : okR xs) : prfB xs (witR xs) (freeR xs) = decide (0 < freeR xs) := by
  unfold prfB
  rw [defR_wit ho, decide_eq_true (Int.le_refl _), Bool.and_true]
theorem witR_length (xs : List Int) : (witR xs).length ≤ 64 := by
  unfold witR
  split
  · rw [List.length_map]; exact pl_le64 _
  · exact Nat.zero_le _
/-- how many black ones stay free, in terms of the list's length. -/
theorem freeR_is (ho : okR xs) : freeR xs = ((blks xs).length : Int) - ((matchR xs).length : Int) := by
  unfold freeR
  rw [if_pos (okRB_iff.2 ho), freeN_is, matchR_length ho]
end
end Go.Proofs.Ytgkgdgchkhdgjaa.Def
