/- DefW, Unb, FreS, LFre in one text. -/
import Derived.Test.YtgkgdgchkhdgjaaDefL
import Derived.Test.YtgkgdgchkhdgjaaMgWay
import Derived.BigQuiet
import Derived.Deep.QuietTactic
import Derived.Test.YtgkgdgchkhdgjaaMgFnd
import Derived.Test.YtgkgdgchkhdgjaaMgDfM
import Derived.Test.YtgkgdgchkhdgjaaRegL

/- The list of black cells that are reached, pure: it grows while it is walked: no program here. -/
namespace Go.Proofs.Ytgkgdgchkhdgjaa.Def
set_option linter.unusedVariables false
set_option linter.unusedSimpArgs false
open Go.Proofs.Ytgkgdgchkhdgjaa.Pure Go.Proofs.Ytgkgdgchkhdgjaa.Kun Go.Proofs.Ytgkgdgchkhdgjaa.KuL Go.Proofs.Ytgkgdgchkhdgjaa.Sets Go.Proofs.Ytgkgdgchkhdgjaa.Mat Go.Joins
open Go.Proofs.Ytgkgdgchkhdgjaa.Cnt (adj adj_comm gR)

/-- all neighbors of the first k have been looked at. -/
structure Bf (xs : List Int) (J : Nat → Int) (L : List Nat) (k : Nat) : Prop where
  nd : L.Nodup
  rch : ∀ u ∈ L, Rch xs J u
  fr : ∀ u, u < 64 → frB xs J u = true → u ∈ L
  done : ∀ i u, i < k → L[i]? = some u → ∀ w, w < 64 → adj u w = true → gR xs w = true → 0 ≤ J w → (J w).toNat ∈ L
/-- and the first i of the next one's. -/
structure Bi (xs : List Int) (J : Nat → Int) (L : List Nat) (k u i : Nat) : Prop where
  bf : Bf xs J L k
  at_ : L[k]? = some u
  here : ∀ w ∈ (nbN u).take i, gR xs w = true → 0 ≤ J w → (J w).toNat ∈ L
section
variable {xs : List Int} {J : Nat → Int} {L : List Nat} {k u i : Nat}
theorem Bf.open (h : Bf xs J L k) (hu : L[k]? = some u) : Bi xs J L k u 0 := ⟨h, hu, fun w hw => by simp at hw⟩
theorem Bi.skip (h : Bi xs J L k u i) (hi : i < (nbN u).length) (hs : gR xs (nbN u)[i] = true → 0 ≤ J (nbN u)[i] → (J (nbN u)[i]).toNat ∈ L) : Bi xs J L k u (i + 1) := by
  refine ⟨h.bf, h.at_, fun w hw hg h0 => ?_⟩
  rw [List.take_succ_eq_append_getElem hi, List.mem_append] at hw
  rcases hw with hw | hw
  · exact h.here w hw hg h0
  · rw [List.mem_singleton.1 hw] at hg h0 ⊢
    exact hs hg h0
theorem Bi.add (h : Bi xs J L k u i) (hi : i < (nbN u).length) (hg : gR xs (nbN u)[i] = true) (h0 : 0 ≤ J (nbN u)[i]) (hn : (J (nbN u)[i]).toNat ∉ L) : Bi xs J (L ++ [(J (nbN u)[i]).toNat]) k u (i + 1) := by
  obtain ⟨hw, ha⟩ := mem_nbN.1 (List.getElem_mem hi)
  have hkl : k < L.length := (List.getElem?_eq_some_iff.1 h.at_).1
  refine ⟨⟨?_, fun x hx => ?_, fun x hx hf => List.mem_append_left _ (h.bf.fr x hx hf), fun j x hj hx w w1 w2 w3 w4 => ?_⟩, ?_, fun w hw2 hg2 h02 => ?_⟩
  · rw [List.nodup_append]
    refine ⟨h.bf.nd, List.nodup_cons.2 ⟨by simp, List.nodup_nil⟩, fun a ha b hb e => ?_⟩
    rw [List.mem_singleton.1 hb] at e
    exact hn (e ▸ ha)
  · rcases List.mem_append.1 hx with hx | hx
    · exact h.bf.rch x hx
    · rw [List.mem_singleton.1 hx]
      exact Rch.step (h.bf.rch u (List.mem_of_getElem? h.at_)) hw ha hg h0
  · rw [List.getElem?_append_left (by omega)] at hx
    exact List.mem_append_left _ (h.bf.done j x hj hx w w1 w2 w3 w4)
  · rw [List.getElem?_append_left hkl]; exact h.at_
  · rw [List.take_succ_eq_append_getElem hi, List.mem_append] at hw2
    rcases hw2 with hw2 | hw2
    · exact List.mem_append_left _ (h.here w hw2 hg2 h02)
    · rw [List.mem_singleton.1 hw2]
      exact List.mem_append_right _ (List.mem_singleton.2 rfl)
theorem Bi.close (h : Bi xs J L k u i) (hi : (nbN u).length ≤ i) : Bf xs J L (k + 1) := by
  refine ⟨h.bf.nd, h.bf.rch, h.bf.fr, fun j x hj hx w w1 w2 w3 w4 => ?_⟩
  by_cases e : j = k
  · subst e
    rw [h.at_] at hx
    injection hx with hx
    subst hx
    refine h.here w ?_ w3 w4
    rw [List.take_of_length_le hi]
    exact mem_nbN.2 ⟨w1, w2⟩
  · exact h.bf.done j x (by omega) hx w w1 w2 w3 w4
theorem Bf.lt (hm : Mc (gR xs) col (Blk xs) J) (h : Bf xs J L k) : ∀ x ∈ L, x < 64 ∧ Blk xs x = true := fun x hx => (h.rch x hx).blk hm
theorem Bf.len (hm : Mc (gR xs) col (Blk xs) J) (h : Bf xs J L k) : L.length ≤ 64 := by
  have h1 := List.Nodup.length_le_of_subset h.nd (l₂ := List.range 64) (fun x hx => List.mem_range.2 (h.lt hm x hx).1)
  rw [List.length_range] at h1
  exact h1
/-- the free ones are the first. -/
theorem Bf.start (hn : L.Nodup) (hl : ∀ x, x ∈ L ↔ x < 64 ∧ frB xs J x = true) : Bf xs J L 0 :=
  ⟨hn, fun x hx => Rch.free ((hl x).1 hx).1 ((hl x).1 hx).2, fun x h1 h2 => (hl x).2 ⟨h1, h2⟩, fun j x hj => by omega⟩
end
/-- when all have been looked at. -/
theorem Bf.fin {xs : List Int} {L : List Nat} {k : Nat} (h : Bf xs (joined xs) L k) (hk : L.length ≤ k) : (fun u => decide (u ∈ L)) = witB xs :=
  wit_of (fun x h1 h2 => decide_eq_true (h.fr x h1 h2)) (fun x hx => h.rch x (of_decide_eq_true hx)) (fun x w hx w1 w2 w3 w4 => by
    have hx := of_decide_eq_true hx
    obtain ⟨j, hj, e⟩ := List.getElem_of_mem hx
    exact decide_eq_true (h.done j x (by omega) (by rw [List.getElem?_eq_getElem hj, e]) w w1 w2 w3 w4))
/-- the black cells of the first t that no domino covers. -/
def frs0 (xs : List Int) (J : Nat → Int) (t : Nat) : List Nat := ((idl xs).take t).filter fun u => col u && !isT J u
theorem frs0_no {xs : List Int} {J : Nat → Int} {t : Nat} (ht : t < (idl xs).length) (h : (col (idl xs)[t] && !isT J (idl xs)[t]) = false) : frs0 xs J (t + 1) = frs0 xs J t := by
  unfold frs0; rw [List.take_succ_eq_append_getElem ht, List.filter_append, List.filter_cons_of_neg (by rw [h]; simp), List.filter_nil, List.append_nil]
theorem frs0_yes {xs : List Int} {J : Nat → Int} {t : Nat} (ht : t < (idl xs).length) (h : (col (idl xs)[t] && !isT J (idl xs)[t]) = true) : frs0 xs J (t + 1) = frs0 xs J t ++ [(idl xs)[t]] := by
  unfold frs0; rw [List.take_succ_eq_append_getElem ht, List.filter_append, List.filter_cons_of_pos (by exact h), List.filter_nil]
theorem frs0_bf {xs : List Int} (ho : okR xs) {J : Nat → Int} {t : Nat} (ht : (idl xs).length ≤ t) : Bf xs J (frs0 xs J t) 0 := by
  refine Bf.start ?_ (fun x => ?_)
  · unfold frs0
    exact List.Pairwise.filter _ ((idl_nodup xs).sublist (List.take_sublist _ _))
  · unfold frs0
    rw [List.take_of_length_le ht, List.mem_filter]
    unfold idl
    rw [if_pos (okRB_iff.2 ho)]
    unfold Cnt.idxs frB
    rw [List.mem_filter, List.mem_range, Bool.and_eq_true, Bool.and_eq_true, blk_iff]
    exact ⟨fun h => ⟨h.1.1, ⟨h.1.2, h.2.1⟩, h.2.2⟩, fun h => ⟨⟨h.1, h.2.1.1⟩, h.2.1.2, h.2.2⟩⟩
/-- the first t places of a set, as cells. -/
def outK (Z : Nat → Bool) (t : Nat) : List (Int × Int) := ((List.range t).filter Z).map plc
theorem outK_no {Z : Nat → Bool} {t : Nat} (h : Z t = false) : outK Z (t + 1) = outK Z t := by
  unfold outK; rw [List.range_succ, List.filter_append, List.filter_cons_of_neg (by rw [h]; simp), List.filter_nil, List.append_nil]
theorem outK_yes {Z : Nat → Bool} {t : Nat} (h : Z t = true) : outK Z (t + 1) = outK Z t ++ [plc t] := by
  unfold outK; rw [List.range_succ, List.filter_append, List.filter_cons_of_pos h, List.filter_nil, List.map_append]; rfl
theorem outK_all {xs : List Int} (ho : okR xs) : outK (witB xs) 64 = witR xs := by rw [witR_ok ho]; rfl
/-- the black places that the first t cells of a table name. -/
def isTk (J : Nat → Int) (t u : Nat) : Bool := (List.range t).any fun i => decide (J i = (u : Int))
theorem isTk_all (J : Nat → Int) : isTk J 64 = isT J := rfl
theorem isTk_zero (J : Nat → Int) : isTk J 0 = fun _ => false := by funext u; rfl
theorem isTk_no {J : Nat → Int} {t : Nat} (h : J t < 0) : isTk J (t + 1) = isTk J t := by
  funext u
  unfold isTk
  rw [List.range_succ, List.any_append]
  have : decide (J t = (u : Int)) = false := decide_eq_false (by omega)
  simp [this]
theorem isTk_yes {J : Nat → Int} {t : Nat} (h : 0 ≤ J t) : isTk J (t + 1) = put (isTk J t) (J t).toNat true := by
  funext u
  unfold isTk put
  rw [List.range_succ, List.any_append]
  by_cases e : u = (J t).toNat
  · rw [if_pos e]
    have : decide (J t = (u : Int)) = true := decide_eq_true (by omega)
    simp [this]
  · rw [if_neg e]
    have : decide (J t = (u : Int)) = false := decide_eq_false (by omega)
    simp [this]
end Go.Proofs.Ytgkgdgchkhdgjaa.Def

/- uncoveredBlacks and FreeBlacks, the program's. -/
namespace Go.Proofs.Ytgkgdgchkhdgjaa.Def
set_option linter.unusedVariables false
set_option linter.unusedSimpArgs false
set_option maxRecDepth 100000
open Go.RowKit Go.Proofs.Ytgkgdgchkhdgjaa.Base Go.Proofs.Ytgkgdgchkhdgjaa.Pure Go.Proofs.Ytgkgdgchkhdgjaa.Cell Go.Proofs.Ytgkgdgchkhdgjaa.Cels Go.Proofs.Ytgkgdgchkhdgjaa.Dom Go.Proofs.Ytgkgdgchkhdgjaa.Dms Go.Proofs.Ytgkgdgchkhdgjaa.Sets Go.Proofs.Ytgkgdgchkhdgjaa.Kun Go.Proofs.Ytgkgdgchkhdgjaa.KuL Go.Proofs.Ytgkgdgchkhdgjaa.Til Go.Proofs.Ytgkgdgchkhdgjaa.Mat Go.Joins
open Go.Proofs.Ytgkgdgchkhdgjaa.Cnt (adj gR)
open Go.Proofs.Ytgkgdgchkhdgjaa.Nb (nbTo)
open Go.Proofs.Ytgkgdgchkhdgjaa.Reg hiding Yes add_none RC rc_start

/-- a black place is covered just if it is joined. -/
theorem cov_is {xs : List Int} {t : Nat} {M : Nat → Int} (hM : Mir col (jT xs t) M) {u : Nat} (hu : col u = true) : decide (0 ≤ M u) = isT (jT xs t) u := by
  rw [Bool.eq_iff_iff, decide_eq_true_eq, isT_iff]
  constructor
  · intro h
    have e := (hM.bl u hu (M u).toNat).1 (Int.toNat_of_nonneg h).symm
    exact ⟨(M u).toNat, ((jT_mc xs t).mt.ok _ (by omega)).1, e⟩
  · rintro ⟨i, _, e⟩
    have := (hM.bl u hu i).2 e
    omega
theorem frs0_zero (xs : List Int) (J : Nat → Int) : frs0 xs J 0 = [] := rfl
theorem frs0_length (xs : List Int) (J : Nat → Int) (t : Nat) : (frs0 xs J t).length ≤ t := by
  unfold frs0
  exact Nat.le_trans (List.length_filter_le _ _) (by rw [List.length_take]; omega)
/-- the free black cells. -/
def freeL (xs : List Int) : List Nat := frs0 xs (jT xs (idl xs).length) (idl xs).length
set_option maxHeartbeats 4000000 in
theorem iUncovered (w : World) (A : Option Addr) (n cap B : Nat) (xs : List Int) (hx : xs.length = n) (hn : (n : Int) ≤ 9223372036854775807) (h : RowB w B A xs) (hB : B ≤ w.heap.size)
    (m : Nat) (M : Nat → Int) (hM : OwnC w m M) (hMi : Mir col (jT xs (idl xs).length) M) :
    Calls Try.prog 55 #[.map (some m), .agg #[.slice A n cap]] w (NbPost ((freeL xs).map plc) w) := by
  obtain ⟨i0, hi, hz0, hz1, hz2⟩ := info_parts cellInfo
  have HC := Lib.hid (fun W (hb : Below w.heap.size w W) => iCellsOf W A n cap B xs hx hn (h.below hb hB) (by have := hb.size; omega))
  have HS := Lib.hid (fun (o : Obj) => below_alloc1 w o)
  have HLC := cellsR_length xs
  rw [idl_cells, List.length_map] at HLC
  rw [idl_cells] at HC
  have HMi := Lib.hid hMi
  have HL := Lib.hid (fun W (hb : Below w.heap.size w W) k (hk : k < 64) => (hM.on hb).look hk)
  unfold freeL
  obtain ⟨J, hJ⟩ : ∃ J, J = jT xs (idl xs).length := ⟨_, rfl⟩
  have HCv := Lib.hid (fun u (hu : col u = true) => show decide (0 ≤ M u) = isT J u from hJ ▸ cov_is hMi hu)
  rw [← hJ]
  clear hx hn h hB hJ HMi hMi hM
  obtain ⟨N, hN⟩ : ∃ N, N = (idl xs).length := ⟨_, rfl⟩
  rw [← hN] at HLC ⊢
  have HN := Lib.hid hN
  clear hN
  go_enter Try.func55, Try.ntmps55
  go_wp2_with fail
  refine (HC.out _ (HS.out _)).mono ?_
  rintro e w1 ⟨A1, cap1, rfl, hown1, hb1⟩
  rw [List.length_map, ← HN.out] at hown1 ⊢
  have hbw1 := (HS.out _).trans (hb1.mono (HS.out _).size)
  obtain ⟨b, off, hA1, hR1⟩ := rowC_own hown1
  have R1 : RdC w1 b off ((idl xs).map plc) := ⟨fun h0 => (hA1 h0).2, hR1⟩
  have HA1 := Lib.hid (fun h0 => (hA1 h0).1)
  rw [List.length_map, ← HN.out] at HA1
  have HNil := Lib.hid (World.ownsRow_nil w1 w1.heap.size 58 2)
  clear HC HS hown1 hb1 hA1 hR1
  go_wp2_with fail
  go_loopw [5, 13] (fun v i wr => ∃ j : Nat, j ≤ N ∧ i = .int .i64 j ∧ wr.ownsRow w1.heap.size 58 2 v (frs0 xs J j).length (rowC ((frs0 xs J j).map plc)) ∧ Below w1.heap.size w1 wr) (fun _ i _ => N - (intOf i).toNat)
  case atStart => exact ⟨0, Nat.zero_le _, rfl, by simpa [frs0_zero, rowC] using HNil.out, Below.refl _ _⟩
  case round =>
    clear HNil
    obtain ⟨j, hj, rfl, hown, hb⟩ := hrel
    have hbs := hb.size
    by_cases hlt : j < N
    · have hti : j < (idl xs).length := by rw [← HN.out]; exact hlt
      obtain rfl := HA1.out (by omega)
      have hbb : b < w1.heap.size := R1.1 (by rw [List.length_map]; omega)
      obtain ⟨c0, c1⟩ := R1.2 j (plc (idl xs)[j]) (by rw [List.getElem?_map, List.getElem?_eq_getElem hti]; rfl)
      have c0 := (hb.cell (p := ⟨b, off + j * 2, none⟩) hbb).trans c0
      have c1 := (hb.cell (p := ⟨b, off + j * 2 + 1, none⟩) hbb).trans c1
      obtain ⟨v64, vg, _⟩ := idl_mem (List.getElem_mem hti)
      have HBl := Lib.hid (fun W => CellF.iIsBlack (plc (idl xs)[j]).1 (plc (idl xs)[j]).2 W)
      rw [show blackB (plc (idl xs)[j]).1 (plc (idl xs)[j]).2 = col (idl xs)[j] from col_black v64] at HBl
      have HNo := Lib.hid (fun hh => frs0_no (J := J) hti hh)
      have HYe := Lib.hid (fun hh => frs0_yes (J := J) hti hh)
      have hbw := hbw1.trans (hb.mono hbw1.size)
      have HLk := Lib.hid (fun W hb => HL.out W hb _ v64)
      have HCk := Lib.hid (HCv.out (idl xs)[j])
      have hLn := frs0_length xs J j
      generalize (idl xs)[j] = v at c0 c1 HBl HNo HYe HLk HCk
      unfold cV at HLk
      have HPl := Lib.hid (rfl : plc v = plc v)
      have hvx : ((v % 8 : Nat) : Int) = (plc v).1 := rfl
      have hvy : ((v / 8 : Nat) : Int) = (plc v).2 := rfl
      obtain ⟨ux, hux⟩ : ∃ q, q = (plc v).1 := ⟨_, rfl⟩
      obtain ⟨uy, huy⟩ : ∃ q, q = (plc v).2 := ⟨_, rfl⟩
      rw [hvx, hvy, ← hux, ← huy] at HLk
      rw [← hux] at c0 HBl
      rw [← huy] at c1 HBl
      have HUv := Lib.hid (show plc v = (ux, uy) by rw [hux, huy])
      clear hux huy hvx hvy HPl vg
      obtain ⟨ox, hox⟩ : ∃ q : Int, q = (((M v).toNat % 8 : Nat) : Int) := ⟨_, rfl⟩
      obtain ⟨oy, hoy⟩ : ∃ q : Int, q = (((M v).toNat / 8 : Nat) : Int) := ⟨_, rfl⟩
      rw [← hox, ← hoy] at HLk
      clear hox hoy
      generalize decide (0 ≤ M v) = kq at HLk HCk
      have HOwn := Lib.hid hown
      clear hown
      generalize hU : frs0 xs J j = U at HOwn HYe HNo hLn
      clear hU
      have Z2 := At2.new wr ux uy
      have B2 := hb.alloc hb.size (.cells #[.int .i64 ux, .int .i64 uy] 58)
      have HO2 := Lib.hid (Reg.own_below HOwn.out (below_alloc1 wr (.cells #[.int .i64 ux, .int .i64 uy] 58)) (Nat.le_refl _))
      have hs2 : w1.heap.size ≤ (wr.alloc (.cells #[.int .i64 ux, .int .i64 uy] 58)).heap.size := B2.size
      clear hbw HOwn
      go_upto_region 5 with fail
      generalize wr.alloc (.cells #[.int .i64 ux, .int .i64 uy] 58) = W2 at Z2 B2 HO2 hs2 ⊢
      generalize wr.heap.size = zb at Z2 ⊢
      clear c0 c1 hb hbs hbb R1
      have d0 := Z2.c0
      have d1 := Z2.c1
      have hlk := HLk.out W2 (hbw1.trans (B2.mono hbw1.size))
      have Z3 := Z2.on (below_alloc1 W2 (.cells #[.int .i64 ox, .int .i64 oy] 58))
      have B3 := B2.alloc hs2 (.cells #[.int .i64 ox, .int .i64 oy] 58)
      have HO3 := Lib.hid (Reg.own_below HO2.out (below_alloc1 W2 (.cells #[.int .i64 ox, .int .i64 oy] 58)) (Nat.le_refl _))
      clear HO2
      go_upto_region 6 with fail
      generalize W2.alloc (.cells #[.int .i64 ox, .int .i64 oy] 58) = W3 at Z3 B3 HO3 ⊢
      clear d0 d1 Z2 B2 hlk HLk hs2
      have d0 := Z3.c0
      have d1 := Z3.c1
      go_wp2_with fail
      refine (HBl.out _).mono ?_
      rintro e w4 ⟨rfl, hb4⟩
      have Z4 := Z3.on hb4
      have B4 := B3.trans (hb4.mono B3.size)
      have HO4 := Lib.hid (Reg.own_below HO3.out hb4 (Nat.le_refl _))
      have hs4 := B4.size
      clear d0 d1 Z3 B3 HO3 hb4 HBl
      cases hc : col v with
      | false =>
        have HN := Lib.hid (HNo.out (by rw [hc]; rfl))
        clear hc HCk HNo HYe
        go_wp2
        go_roundw
        case rel => exact ⟨j + 1, by omega, by go_num, by rw [HN.out]; exact HO4.out, B4⟩
        case measure => (simp [intOf] <;> omega)
      | true =>
        have hkq := HCk.out hc
        cases kq with
        | true =>
          have HN := Lib.hid (HNo.out (by rw [hc, ← hkq]; rfl))
          clear hc HCk HNo HYe hkq
          go_wp2
          go_roundw
          case rel => exact ⟨j + 1, by omega, by go_num, by rw [HN.out]; exact HO4.out, B4⟩
          case measure => (simp [intOf] <;> omega)
        | false =>
          have HN := Lib.hid (HYe.out (by rw [hc, ← hkq]; rfl))
          clear hc HCk HNo HYe hkq
          have d0 := Z4.c0
          have d1 := Z4.c1
          have hU64 : U.length ≤ 64 := by omega
          have hUm : (U.map plc).length = U.length := List.length_map ..
          go_wp2_with (first
            | (at_builtin; refine wpList_append_own _ rfl _ _ 31 rfl w1.heap.size 58 i0 (.agg #[.int .i64 0, .int .i64 0]) 2 16 Try.underlying31 hi hz0 hz1 hz2 rfl (by decide) _ U.length (rowC (U.map plc)) rfl (HO4.out.alloc _) ⟨w4.heap.size, 0, none⟩ 1 1 [.int .i64 ux, .int .i64 uy] rfl rfl (World.news_of_block (cs := #[.int .i64 ux, .int .i64 uy]) (t := 58) (fr := (0, 0)) (heap_alloc_new w4 _)) (by simp [Value.oneCell']) (by unfold maxLen; omega) (by omega) (by simp; omega) ?_; intro v2 w5 hown5 hgrow _))
          have hb5 : Below w1.heap.size w1 w5 := (B4.alloc (by omega) _).grown hgrow (by simp; omega) (fun g hg => (HO4.out.lt g hg).1)
          have R := Lib.hid (show w5.ownsRow w1.heap.size 58 2 v2 (U ++ [v]).length (rowC ((U ++ [v]).map plc)) by
            rw [List.map_append, List.map_singleton, HUv.out, rowC_snoc, List.length_append]; exact hown5)
          clear hown5 hgrow
          go_wp2
          go_roundw
          case rel => exact ⟨j + 1, by omega, by go_num, by rw [HN.out]; exact R.out, hb5⟩
          case measure => (simp [intOf] <;> omega)
    · obtain rfl : j = N := by omega
      obtain ⟨A2, cap2, rfl⟩ := own_shape hown
      have hEnd := hbw1.trans (hb.mono hbw1.size)
      have HOwn := Lib.hid hown
      clear hown hb
      go_wp2
      go_ret
      have hz := hbw1.size
      refine ⟨A2, cap2, by rw [List.length_map]; first | done | rfl, ?_, hEnd⟩
      rw [List.length_map]
      exact Reg.own_base HOwn.out (by omega)

theorem free_len (xs : List Int) : (((freeL xs).length : Nat) : Int) = freeR xs := by
  unfold freeR
  by_cases ho : okR xs
  · rw [if_pos (okRB_iff.2 ho)]
    unfold freeL
    rw [jT_end ho]
    have e : frs0 xs (joined xs) (idl xs).length = pl (frB xs (joined xs)) := by
      unfold frs0
      rw [List.take_length]
      unfold idl
      rw [if_pos (okRB_iff.2 ho)]
      unfold Cnt.idxs pl
      rw [List.filter_filter]
      refine List.filter_congr (fun u _ => ?_)
      unfold frB Blk
      cases gR xs u <;> cases col u <;> simp
    rw [e]; rfl
  · rw [if_neg (fun q => ho (okRB_iff.1 q))]
    unfold freeL frs0 idl
    rw [if_neg (fun q => ho (okRB_iff.1 q))]
    rfl
set_option maxHeartbeats 2000000 in
theorem iFreeBlacks (w : World) (A : Option Addr) (n cap B : Nat) (xs : List Int) (hx : xs.length = n) (hn : (n : Int) ≤ 9223372036854775807) (h : RowB w B A xs) (hB : B ≤ w.heap.size) :
    Calls Try.prog 20 #[.agg #[.slice A n cap]] w (Num (freeR xs) w) := by
  have T0 := Lib.hid (fun (T : TypeId) => rb_start (T := T) (.slice A n cap) w)
  have HM := Lib.hid (fun W (hb : RB w (.slice A n cap) W) => iMatched W A n cap B xs hx hn (h.below hb.1 hB) (by have := hb.2.1; omega))
  have HU := Lib.hid (fun W (hb : RB w (.slice A n cap) W) m M (hM : OwnC W m M) (hMi : Mir col (jT xs (idl xs).length) M) => iUncovered W A n cap B xs hx hn (h.below hb.1 hB) (by have := hb.2.1; omega) m M hM hMi)
  have HF := Lib.hid (free_len xs)
  generalize hF : (freeL xs).map plc = F at HU
  have HFl := Lib.hid (show ((F.length : Nat) : Int) = freeR xs by rw [← hF, List.length_map]; exact HF.out)
  clear hx hn h hB hF HF
  go_enter Try.func20, Try.ntmps20
  go_wp2_with fail
  have T1 := T0.out 29
  generalize w.alloc (.cells #[.slice A n cap] 29) = W1 at T1 ⊢
  have c1 := T1.2.2
  refine wp_region_noPanic ?_
  refine wp_region_held_drew (S := (fun w' => w'.cell? ⟨w.heap.size, 0, none⟩ = some (.slice A n cap))) (by kernel_rfl) (T1.drew.2.2) (fun hHeld => ?_)
  refine wpAnyH_take (i := 0) (v := ?_) rfl (by kernel_rfl) (by kernel_rfl) (by kernel_rfl) (fun _ _ _ h => h) (Or.inl ⟨by rfl, ?_⟩) (by assumption) ?_
  rotate_left
  · (intro w' hS; (try dsimp only at hS); go_simp; try with_reducible rfl)
  try simp only [Act.put, List.getElem_toArray, List.getElem_cons_succ, List.getElem_cons_zero, List.setIfInBounds_toArray, List.set_cons_zero, List.set_cons_succ]
  refine wpAnyH_take (i := 2) (v := ?_) rfl (by kernel_rfl) (by kernel_rfl) (by kernel_rfl) (fun _ _ _ h => h) (Or.inl ⟨by rfl, ?_⟩) (by assumption) ?_
  rotate_left
  · (intro w' hS; (try dsimp only at hS); go_simp; try with_reducible rfl)
  try simp only [Act.put, List.getElem_toArray, List.getElem_cons_succ, List.getElem_cons_zero, List.setIfInBounds_toArray, List.set_cons_zero, List.set_cons_succ]
  refine wpAnyH_ready (rs := [1]) (by kernel_rfl) (by simp) ?_
  refine AllReadyH.cons rfl (fun K hK => ?_) AllReadyH.nil
  go_simp
  refine (HM.out _ T1.drew).mono ?_
  rintro e wx ⟨m, M, rfl, _, hM, hMi, hbx⟩
  have T2 := T1.drew.on hbx
  clear T1
  go_wp2_with fail
  refine hK.out _ _ (T2.2.2) (fun hHeld => ?_)
  clear hK K
  try simp only [Act.put, List.getElem_toArray, List.getElem_cons_succ, List.getElem_cons_zero, List.setIfInBounds_toArray, List.set_cons_zero, List.set_cons_succ]
  refine wpAnyH_ready (rs := [3]) (by kernel_rfl) (by simp) ?_
  refine AllReadyH.cons rfl (fun K hK => ?_) AllReadyH.nil
  go_simp
  refine (HU.out _ T2 m M hM hMi).mono ?_
  rintro e wx ⟨A3, cap3, rfl, hown3, hbx⟩
  have T3 := T2.on hbx
  clear T2
  go_wp2_with fail
  refine hK.out _ _ (T3.2.2) (fun hHeld => ?_)
  clear hK K
  try simp only [Act.put, List.getElem_toArray, List.getElem_cons_succ, List.getElem_cons_zero, List.setIfInBounds_toArray, List.set_cons_zero, List.set_cons_succ]
  refine wpAnyH_take (i := 4) (v := ?_) rfl (by kernel_rfl) (by kernel_rfl) (by kernel_rfl) (fun _ _ _ h => h) (Or.inl ⟨by rfl, ?_⟩) (by assumption) ?_
  rotate_left
  · (intro w' hS; (try dsimp only at hS); go_simp; try with_reducible rfl)
  try simp only [Act.put, List.getElem_toArray, List.getElem_cons_succ, List.getElem_cons_zero, List.setIfInBounds_toArray, List.set_cons_zero, List.set_cons_succ]
  refine wpAnyH_take (i := 5) (v := ?_) rfl (by kernel_rfl) (by kernel_rfl) (by kernel_rfl) (fun _ _ _ h => h) (Or.inl ⟨by rfl, ?_⟩) (by assumption) ?_
  rotate_left
  · (intro w' hS; (try dsimp only at hS); go_simp; try with_reducible rfl)
  try simp only [Act.put, List.getElem_toArray, List.getElem_cons_succ, List.getElem_cons_zero, List.setIfInBounds_toArray, List.set_cons_zero, List.set_cons_succ]
  refine wpAnyH_done (by kernel_rfl) ?_ _
  refine NoPanic.normal ?_
  clear hHeld
  go_wp2
  go_ret
  exact mkNum HFl.out T3.1
end Go.Proofs.Ytgkgdgchkhdgjaa.Def

/- The model's FreeBlacks. -/
namespace Go.Proofs.Ytgkgdgchkhdgjaa.Def
set_option linter.unusedVariables false
set_option linter.unusedSimpArgs false
set_option maxRecDepth 100000
open Go.RowKit Go.Proofs.Ytgkgdgchkhdgjaa.Base Go.Proofs.Ytgkgdgchkhdgjaa.Pure Go.Proofs.Ytgkgdgchkhdgjaa.Cell Go.Proofs.Ytgkgdgchkhdgjaa.Cels Go.Proofs.Ytgkgdgchkhdgjaa.Dom Go.Proofs.Ytgkgdgchkhdgjaa.Dms Go.Proofs.Ytgkgdgchkhdgjaa.Sets Go.Proofs.Ytgkgdgchkhdgjaa.Kun Go.Proofs.Ytgkgdgchkhdgjaa.KuL Go.Proofs.Ytgkgdgchkhdgjaa.Til Go.Proofs.Ytgkgdgchkhdgjaa.Mat Go.Joins
open Go.Proofs.Ytgkgdgchkhdgjaa.Cnt (adj gR)
open Go.Proofs.Ytgkgdgchkhdgjaa.Reg hiding Yes add_none RC rc_start

theorem free_model (xs : List Int) : ((bls xs (idl xs).length).length : Int) - ((matchR xs).length : Int) = freeR xs := by
  by_cases ho : okR xs
  · rw [freeR_is ho]
    have e : bls xs (idl xs).length = blks xs := by
      unfold bls
      rw [List.take_length]
      unfold idl
      rw [if_pos (okRB_iff.2 ho)]
      unfold Cnt.idxs blks
      rw [List.filter_filter]
      refine List.filter_congr (fun x _ => ?_)
      unfold Blk
      exact Bool.and_comm _ _
    rw [e]
  · unfold freeR bls idl
    rw [if_neg (fun q => ho (okRB_iff.1 q)), if_neg (fun q => ho (okRB_iff.1 q)), matchR_not ho]
    rfl
theorem most_le64 (xs : List Int) : (matchR xs).length ≤ 64 := by
  by_cases ho : okR xs
  · rw [matchR_length ho]
    unfold sz
    exact Nat.le_trans (List.length_filter_le _ _) (by rw [List.length_range]; exact Nat.le_refl _)
  · rw [matchR_not ho]; exact Nat.zero_le _
theorem bls_length (xs : List Int) (t : Nat) : (bls xs t).length ≤ t := by
  unfold bls
  exact Nat.le_trans (List.length_filter_le _ _) (by rw [List.length_take]; omega)
set_option maxHeartbeats 4000000 in
theorem sFreeBlacks (w : World) (A : Option Addr) (n cap B : Nat) (xs : List Int) (hx : xs.length = n) (hn : (n : Int) ≤ 9223372036854775807) (h : RowB w B A xs) (hB : B ≤ w.heap.size) :
    Calls Try.prog 19 #[.agg #[.slice A n cap]] w (Num (freeR xs) w) := by
  have HC := Lib.hid (fun W (hb : RB w (.slice A n cap) W) => (idl_cells xs ▸ sCellsOf W A n cap B xs hx hn (h.below hb.1 hB) (by have := hb.2.1; omega)))
  have HM := Lib.hid (fun W (hb : RB w (.slice A n cap) W) => sMostDominoes W A n cap B xs hx hn (h.below hb.1 hB) (by have := hb.2.1; omega))
  have T0 := Lib.hid (fun (T : TypeId) => rb_start (T := T) (.slice A n cap) w)
  have HF := Lib.hid (free_model xs)
  have HLn := cellsR_length xs
  rw [idl_cells, List.length_map] at HLn
  have HMl := Lib.hid (most_le64 xs)
  generalize (matchR xs).length = q at HM HF HMl
  clear hx hn h hB
  go_enter Try.func19, Try.ntmps19
  go_wp2_with fail
  have T1 := T0.out 29
  clear T0
  refine (HC.out _ T1).mono ?_
  rintro e w1 ⟨A1, cap1, rfl, hown1, hb1⟩
  obtain ⟨b1, off1, hA1, hR1⟩ := rowC_own hown1
  have HT1 := Lib.hid (T1.on hb1)
  have HR1 := Lib.hid (show RdC w1 b1 off1 ((idl xs).map plc) from ⟨fun h0 => (hA1 h0).2, hR1⟩)
  rw [List.length_map] at hA1
  have HA1 := Lib.hid (fun h0 => (hA1 h0).1)
  rw [List.length_map]
  clear T1 hown1 hb1 hA1 hR1 HC
  obtain ⟨N, hN⟩ : ∃ N, N = (idl xs).length := ⟨_, rfl⟩
  rw [← hN] at HLn HA1 HF ⊢
  have HN := Lib.hid hN
  clear hN
  go_wp2_with fail
  go_loopw [3, 5] (fun v i wr => ∃ k : Nat, k ≤ N ∧ i = .int .i64 k ∧ v = .int .i64 ((bls xs k).length : Nat) ∧ RdC wr b1 off1 ((idl xs).map plc) ∧ RB w (.slice A n cap) wr) (fun _ i _ => N - (intOf i).toNat)
  case atStart => exact ⟨0, Nat.zero_le _, rfl, rfl, HR1.out, HT1.out⟩
  case round =>
    clear HR1 HT1
    obtain ⟨k, hk, rfl, rfl, hR, hT⟩ := hrel
    by_cases hlt : k < N
    · have hti : k < (idl xs).length := by rw [← HN.out]; exact hlt
      obtain rfl := HA1.out (by omega)
      obtain ⟨c0, c1⟩ := hR.2 k (plc (idl xs)[k]) (by rw [List.getElem?_map, List.getElem?_eq_getElem hti]; rfl)
      obtain ⟨v64, _, _⟩ := idl_mem (List.getElem_mem hti)
      have HBl := Lib.hid (fun W => CellF.sIsBlack (plc (idl xs)[k]).1 (plc (idl xs)[k]).2 W)
      rw [show blackB (plc (idl xs)[k]).1 (plc (idl xs)[k]).2 = col (idl xs)[k] from col_black v64] at HBl
      have HNo := Lib.hid (fun hh => congrArg List.length (bls_no (xs := xs) hti hh))
      have HYe := Lib.hid (fun hh => (congrArg List.length (bls_yes (xs := xs) hti hh)).trans (List.length_append ..))
      have hbl := bls_length xs k
      generalize (idl xs)[k] = v at c0 c1 HBl HNo HYe
      generalize (plc v).1 = x at c0 HBl
      generalize (plc v).2 = y at c1 HBl
      generalize (bls xs k).length = c at hbl HNo HYe ⊢
      go_wp2_with fail
      refine (HBl.out _).mono ?_
      rintro e w2 ⟨rfl, hb2⟩
      have T2 := hT.on hb2
      have R2 := hR.on hb2
      clear hT hR hb2 c0 c1 HBl
      cases hc : col v with
      | false =>
        have HN2 := Lib.hid (HNo.out hc)
        clear hc HNo HYe
        go_wp2
        go_roundw
        case rel => exact ⟨k + 1, by omega, by go_num, by rw [HN2.out], R2, T2⟩
        case measure => (simp [intOf] <;> omega)
      | true =>
        have HN2 := Lib.hid (HYe.out hc)
        have hwr : IntKind.i64.wrap ((c : Int) + 1) = ((c + 1 : Nat) : Int) := by rw [IntKind.wrap_i64]; omega
        clear hc HNo HYe
        go_wp2
        go_roundw
        case rel => exact ⟨k + 1, by omega, by go_num, by rw [HN2.out]; rfl, R2, T2⟩
        case measure => (simp [intOf] <;> omega)
    · obtain rfl : k = N := by omega
      have hbl := bls_length xs k
      generalize (bls xs k).length = c at HF hbl ⊢
      have hq := HMl.out
      have hwr : IntKind.i64.wrap ((c : Int) - (q : Int)) = (c : Int) - (q : Int) := by rw [IntKind.wrap_i64]; omega
      have c1 := hT.2.2
      clear hq
      go_wp2_with fail
      refine (HM.out _ hT).mono ?_
      rintro e w5 ⟨rfl, hb5⟩
      have T5 := hT.on hb5
      clear hT c1 hb5
      go_wp2
      go_ret
      exact mkNum HF.out T5.1
end Go.Proofs.Ytgkgdgchkhdgjaa.Def

/- The law FnExactFreeBlacks returns true: the program's answer and the model's are the same, and the region is left as it was. -/
namespace Go.Proofs.Ytgkgdgchkhdgjaa.Def
set_option linter.unusedVariables false
open Go.RowKit Go.Proofs.Ytgkgdgchkhdgjaa.Base Go.Proofs.Ytgkgdgchkhdgjaa.Pure Go.Proofs.Ytgkgdgchkhdgjaa.Cell Go.Proofs.Ytgkgdgchkhdgjaa.Cels Go.Proofs.Ytgkgdgchkhdgjaa.KuL Go.Proofs.Ytgkgdgchkhdgjaa.Reg Go.Joins

set_option maxRecDepth 100000 in
set_option maxHeartbeats 2000000 in
theorem lawFreeBlacks (w : World) (A : Option Addr) (n cap : Nat) (xs : List Int) (hx : xs.length = n) (hn : (n : Int) ≤ 9223372036854775807) (h : RowB w w.heap.size A xs) :
    Calls Try.prog 4 #[.agg #[.slice A n cap]] w (Yes w) := by
  have T0 := Lib.hid (fun T => rb_start (T := T) (.slice A n cap) w)
  have HZ := Lib.hid (fun W => szRegion A n cap 1048576 (by omega) (by omega) hn W)
  by_cases hs : (n : Int) ≤ 1048576
  · have HTo := Lib.hid (fun W (hb : Below w.heap.size w W) => toRegion W A n cap w.heap.size xs hx hs (h.below hb (Nat.le_refl _)) hb.size)
    have HEq := Lib.hid (fun W A A' c c' (h1 : RowB W W.heap.size A xs) (h2 : RowB W W.heap.size A' xs) => eqRegion W A A' n c c' _ _ xs hx hn h1 h2 (Nat.le_refl _) (Nat.le_refl _))
    have HS := Lib.hid (fun W A c (h1 : RowB W W.heap.size A xs) => sFreeBlacks W A n c W.heap.size xs hx hn h1 (Nat.le_refl _))
    have HI := Lib.hid (fun W A c (h1 : RowB W W.heap.size A xs) => iFreeBlacks W A n c W.heap.size xs hx hn h1 (Nat.le_refl _))
    have hz := szR_yes hs
    generalize szR 1048576 n = z at HZ hz
    obtain ⟨z0, z1⟩ := hz
    have z2 : ¬ z < 0 := by omega
    generalize freeR xs = b at HS HI
    have hq : (b != b) = false := by simp
    clear hs hx hn h
    go_enter Try.func4, Try.ntmps4
    go_wp2_with fail
    have T1 := T0.out 24
    clear T0
    refine (HZ.out _).mono ?_
    rintro e w1 ⟨rfl, hb1⟩
    have T2 := T1.on hb1
    clear T1 hb1 HZ
    obtain ⟨_, _, c0⟩ := id T2
    go_wp2_with fail
    refine (HTo.out _ T2.1).mono ?_
    rintro e w2 ⟨A1, cap1, rfl, hown, hb2⟩
    have T3 := T2.on hb2
    have HR1 := Lib.hid (rowB_own hown)
    clear T2 hown hb2 c0
    go_wp2_with fail
    refine (HS.out _ _ _ HR1.out).mono ?_
    rintro e w3 ⟨rfl, hb3⟩
    have T4 := T3.on hb3
    clear T3 hb3 HS HR1
    obtain ⟨_, _, c0⟩ := id T4
    go_wp2_with fail
    refine (HTo.out _ T4.1).mono ?_
    rintro e w4 ⟨A2, cap2, rfl, hown, hb4⟩
    have T5 := T4.on hb4
    have HO := Lib.hid (own_base hown T4.2.1)
    clear T4 hown hb4 c0
    go_wp2_with fail
    refine (HI.out _ _ _ ((rowB_own HO.out).below (below_alloc1 _ _) (Nat.le_refl _) |>.mono (by simp))).mono ?_
    rintro e w5 ⟨rfl, hb5⟩
    have T6 := rx_start T5 (Nat.le_refl _) HO.out hb5
    clear T5 HO hb5 HI
    generalize w4.heap.size = p at T6 ⊢
    obtain ⟨_, _, c0, c1, _⟩ := id T6
    go_wp2_with fail
    clear c0 c1
    go_region_held3 (fun w' => Below w.heap.size w w' ∧ w.heap.size + 1 ≤ w'.heap.size ∧ w'.cell? ⟨w.heap.size, 0, none⟩ = some (.slice A n cap) ∧ w'.cell? ⟨p, 0, none⟩ = some (.slice A2 n cap2) ∧ (w.heap.size ≤ p ∧ p < w'.heap.size ∧ w'.ownsRow (w.heap.size + 1) 3 1 (.slice A2 n cap2) n (ints xs)))
      (first | assumption | exact RX.drew (by assumption) | exact RX.on (by assumption) (by assumption))
      (first | (go_at_call 14; refine (HTo.out _ (RX.rb (by assumption)).1).mono ?_; rintro e wx ⟨A3, cap3, rfl, hown, hbx⟩; (have HRx := Lib.hid (rowB_own hown)); clear hown) | (go_at_call 17; refine (HEq.out _ _ _ _ _ (RX.row (by assumption)) HRx.out).mono ?_; rintro e wy ⟨rfl, hby⟩))
    all_goals
      have T9 : RX w (.slice A n cap) p A2 n cap2 xs wy := by assumption
      have hb := T9.1
      clear T9 T6
      go_wp2
      go_ret
      exact ⟨rfl, hb⟩
  · rw [szR_no hs] at HZ
    clear hs hx hn h
    go_enter Try.func4, Try.ntmps4
    go_wp2_with fail
    have T1 := T0.out 24
    clear T0
    refine (HZ.out _).mono ?_
    rintro e w1 ⟨rfl, hb1⟩
    have hb := (T1.on hb1).1
    clear T1 hb1 HZ
    go_wp2
    go_ret
    exact ⟨rfl, hb⟩
end Go.Proofs.Ytgkgdgchkhdgjaa.Def
