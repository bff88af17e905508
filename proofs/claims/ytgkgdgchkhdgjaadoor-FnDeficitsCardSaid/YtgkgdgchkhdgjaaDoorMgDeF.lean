/- Blk, DefE, DeF in one text. -/
import Derived.Test.YtgkgdgchkhdgjaaDoorRegCl
import Derived.Test.YtgkgdgchkhdgjaaDoorCellF
import Derived.Test.YtgkgdgchkhdgjaaDoorMgDfL
import Derived.Test.YtgkgdgchkhdgjaaDoorMgWit
import Derived.Test.YtgkgdgchkhdgjaaDoorMgArd
import Derived.Test.YtgkgdgchkhdgjaaDoorMgDfM
import Derived.Test.YtgkgdgchkhdgjaaDoorMgDrw

/- More black cells than white ones: the program's functions and the model's. -/
namespace Go.Proofs.YtgkgdgchkhdgjaaDoor.Flo
set_option linter.unusedVariables false
open Go.RowKit Go.Proofs.YtgkgdgchkhdgjaaDoor.Base Go.Proofs.YtgkgdgchkhdgjaaDoor.Pure Go.Proofs.YtgkgdgchkhdgjaaDoor.Cell Go.Proofs.YtgkgdgchkhdgjaaDoor.CellF Go.Proofs.YtgkgdgchkhdgjaaDoor.Reg Go.Proofs.YtgkgdgchkhdgjaaDoor.Cels Go.Joins

/-- black cells minus white ones, of the first k of a list. -/
def excTo (L : List (Int × Int)) : Nat → Int
  | 0 => 0
  | k + 1 => if blackB (L.getD k (0, 0)).1 (L.getD k (0, 0)).2 then excTo L k + 1 else excTo L k - 1
theorem excTo_le (L : List (Int × Int)) : ∀ k : Nat, -(k : Int) ≤ excTo L k ∧ excTo L k ≤ k
  | 0 => ⟨Int.le_refl _, Int.le_refl _⟩
  | k + 1 => by
    have := excTo_le L k
    unfold excTo
    split <;> omega
theorem excTo_step {L : List (Int × Int)} {k : Nat} {p : Int × Int} (h : L[k]? = some p) : blackB p.1 p.2 = true ∧ excTo L (k + 1) = excTo L k + 1 ∨ blackB p.1 p.2 = false ∧ excTo L (k + 1) = excTo L k - 1 := by
  have e : L.getD k (0, 0) = p := by simp [List.getD, h]
  cases q : blackB p.1 p.2
  · exact .inr ⟨rfl, by show (if blackB (L.getD k (0, 0)).1 (L.getD k (0, 0)).2 then _ else _) = _; rw [e, q]; rfl⟩
  · exact .inl ⟨rfl, by show (if blackB (L.getD k (0, 0)).1 (L.getD k (0, 0)).2 then _ else _) = _; rw [e, q]; rfl⟩
def excR (xs : List Int) : Int := excTo (cellsR xs) (cellsR xs).length
theorem excR_le (xs : List Int) : -64 ≤ excR xs ∧ excR xs ≤ 64 := by
  have h1 := excTo_le (cellsR xs) (cellsR xs).length
  have h2 := cellsR_length xs
  unfold excR
  omega
def balB (xs : List Int) : Bool := decide (okR xs ∧ excR xs = 0)
theorem balB_iff {xs : List Int} : balB xs = true ↔ okR xs ∧ excR xs = 0 := by unfold balB; simp

set_option maxRecDepth 100000 in
set_option maxHeartbeats 2000000 in
theorem sBlackExcess (w : World) (A : Option Addr) (n cap B : Nat) (xs : List Int) (hx : xs.length = n) (hn : (n : Int) ≤ 9223372036854775807) (h : RowB w B A xs) (hB : B ≤ w.heap.size) :
    Calls Tryd.prog 16 #[.agg #[.slice A n cap]] w (Num (excR xs) w) := by
  have HC := Lib.hid (fun W (hb : Below w.heap.size w W) => sCellsOf W A n cap B xs hx hn (h.below hb hB) (by have := hb.size; omega))
  have T0 := Lib.hid (fun T => rb_start (T := T) (.slice A n cap) w)
  have HE := Lib.hid (show excR xs = excTo (cellsR xs) (cellsR xs).length from rfl)
  have HL := cellsR_length xs
  clear hx hn h
  generalize cellsR xs = L at HC HE HL
  go_enter Tryd.func16, Tryd.ntmps16
  go_wp2_with fail
  have T1 := T0.out 26
  clear T0
  refine (HC.out _ T1.1).mono ?_
  rintro e w1 ⟨A1, cap1, rfl, hown, hb1⟩
  have hb := T1.1.trans (hb1.mono T1.1.size)
  have HO := Lib.hid hown
  obtain ⟨m, hm⟩ : ∃ m, m = L.length := ⟨_, rfl⟩
  rw [← hm] at HO HE HL ⊢
  clear hown hb1 HC T1
  go_wp2_with fail
  go_loopw [3, 5] (fun s i wr => ∃ k : Nat, k ≤ m ∧ i = .int .i64 k ∧ s = .int .i64 (excTo L k) ∧ Below w.heap.size w wr ∧ RowC wr A1 L ∧ (∀ b off : Nat, A1 = some ⟨b, off, none⟩ → b < w1.heap.size) ∧ w1.heap.size ≤ wr.heap.size) (fun _ i _ => m - (intOf i).toNat)
  case atStart => exact ⟨0, Nat.zero_le _, rfl, rfl, hb, rowC_own HO.out, (fun b off e => (HO.out.lt b (by rw [e]; rfl)).2), Nat.le_refl _⟩
  case round =>
    clear hb HO
    obtain ⟨k, hk, rfl, rfl, hb, hrow, hA, hsz⟩ := hrel
    by_cases hlt : k < m
    · have hlt' : k < L.length := by omega
      obtain ⟨q, off, h1, h2⟩ := id hrow
      obtain ⟨rfl, hqb⟩ := h1 (by omega)
      obtain ⟨c0, c1⟩ := h2 k L[k] (List.getElem?_eq_getElem hlt')
      have hst := excTo_step (List.getElem?_eq_getElem hlt')
      have HRow := Lib.hid hrow
      have HA := Lib.hid hA
      have hle := excTo_le L k
      have hq1 := hA q off rfl
      generalize L[k].1 = x at c0 c1 hst
      generalize L[k].2 = y at c0 c1 hst
      generalize excTo L k = ex at hst hle ⊢
      clear h1 h2 hrow hA
      go_wp2_with fail
      refine (sIsBlack x y _).mono ?_
      rintro e w2 ⟨rfl, hb2⟩
      have hb' := hb.trans (hb2.mono hb.size)
      have hz2 := hb2.size
      have HRow2 := Lib.hid (HRow.out.below hb2 (fun b o e => by have := HA.out b o e; omega))
      clear hb2 HRow c0 c1
      rcases hst with ⟨hbk, hst⟩ | ⟨hbk, hst⟩
      · rw [hbk]
        clear hbk
        go_wp2
        go_roundw
        case rel => exact ⟨k + 1, by omega, by go_num, by rw [hst], hb', HRow2.out, HA.out, by omega⟩
        case measure => (simp [intOf] <;> omega)
      · rw [hbk]
        clear hbk
        go_wp2
        go_roundw
        case rel => exact ⟨k + 1, by omega, by go_num, by rw [hst], hb', HRow2.out, HA.out, by omega⟩
        case measure => (simp [intOf] <;> omega)
    · obtain rfl : k = m := by omega
      clear hrow hA
      go_wp2
      go_ret
      exact mkNum HE.out.symm hb

end Go.Proofs.YtgkgdgchkhdgjaaDoor.Flo

/- The excess of black cells is no more than stay free, pure. -/
namespace Go.Proofs.YtgkgdgchkhdgjaaDoor.Def
set_option linter.unusedVariables false
set_option linter.unusedSimpArgs false
open Go.RowKit Go.Proofs.YtgkgdgchkhdgjaaDoor.Base Go.Proofs.YtgkgdgchkhdgjaaDoor.Pure Go.Proofs.YtgkgdgchkhdgjaaDoor.Cell Go.Proofs.YtgkgdgchkhdgjaaDoor.Dom Go.Proofs.YtgkgdgchkhdgjaaDoor.Sets Go.Proofs.YtgkgdgchkhdgjaaDoor.Kun Go.Proofs.YtgkgdgchkhdgjaaDoor.KuL Go.Proofs.YtgkgdgchkhdgjaaDoor.Mat Go.Joins
open Go.Proofs.YtgkgdgchkhdgjaaDoor.Cnt (adj adj_comm gR)
open Go.Proofs.YtgkgdgchkhdgjaaDoor.Flo (excTo excTo_step excR)

theorem exc_take {l : List Nat} (h : ∀ u ∈ l, u < 64) : ∀ k, k ≤ l.length → excTo (l.map plc) k = (((l.take k).filter col).length : Int) - (((l.take k).filter fun u => !col u).length : Int)
  | 0, _ => rfl
  | k + 1, hk => by
    have ih := exc_take h k (by omega)
    have h64 := h l[k] (List.getElem_mem _)
    have hb : blackB (plc l[k]).1 (plc l[k]).2 = col l[k] := col_black h64
    have hs := excTo_step (L := l.map plc) (k := k) (p := plc l[k]) (by rw [List.getElem?_map, List.getElem?_eq_getElem (by omega)]; rfl)
    rw [hb] at hs
    rw [List.take_succ_eq_append_getElem (by omega), List.filter_append, List.filter_append, List.length_append, List.length_append]
    rcases hs with ⟨hc, e⟩ | ⟨hc, e⟩
    · rw [e, ih]; simp [hc]; omega
    · rw [e, ih]; simp [hc]; omega
theorem exc_free {xs : List Int} (ho : okR xs) : excR xs ≤ freeR xs := by
  have h1 := exc_take (l := idl xs) (fun u hu => (idl_mem hu).1) (idl xs).length (Nat.le_refl _)
  have h2 := whites_ge (joined_max xs).1
  have h3 := freeR_is ho
  rw [matchR_length ho] at h3
  unfold excR
  rw [idl_cells, List.length_map, h1, List.take_length]
  have e1 : (idl xs).filter col = blks xs := by
    unfold idl
    rw [if_pos (okRB_iff.2 ho)]
    unfold Cnt.idxs blks
    rw [List.filter_filter]
    refine List.filter_congr (fun x _ => ?_)
    unfold Blk
    exact Bool.and_comm _ _
  have e2 : ((idl xs).filter fun u => !col u) = pl fun i => gR xs i && !col i := by
    unfold idl
    rw [if_pos (okRB_iff.2 ho)]
    unfold Cnt.idxs pl
    rw [List.filter_filter]
    refine List.filter_congr (fun x _ => ?_)
    exact Bool.and_comm _ _
  rw [e1, e2]
  omega
theorem freeR_le (xs : List Int) : freeR xs ≤ 64 := by
  unfold freeR
  split
  · have : freeN xs ≤ 64 := pl_le64 _
    omega
  · omega
end Go.Proofs.YtgkgdgchkhdgjaaDoor.Def

/- FnDeficits: as many black cells stay free as the greatest deficit of a set: for whatever code, the law returns true. -/
namespace Go.Proofs.YtgkgdgchkhdgjaaDoor.Def
set_option linter.unusedVariables false
set_option linter.unusedSimpArgs false
set_option maxRecDepth 100000
open Go.RowKit Go.Proofs.YtgkgdgchkhdgjaaDoor.Base Go.Proofs.YtgkgdgchkhdgjaaDoor.Pure Go.Proofs.YtgkgdgchkhdgjaaDoor.Cell Go.Proofs.YtgkgdgchkhdgjaaDoor.Cels Go.Proofs.YtgkgdgchkhdgjaaDoor.Dom Go.Proofs.YtgkgdgchkhdgjaaDoor.Dms Go.Proofs.YtgkgdgchkhdgjaaDoor.Sets Go.Proofs.YtgkgdgchkhdgjaaDoor.Kun Go.Proofs.YtgkgdgchkhdgjaaDoor.KuL Go.Proofs.YtgkgdgchkhdgjaaDoor.Til Go.Proofs.YtgkgdgchkhdgjaaDoor.Mat Go.Joins
open Go.Proofs.YtgkgdgchkhdgjaaDoor.Cnt (adj gR)
open Go.Proofs.YtgkgdgchkhdgjaaDoor.Draw (IsRow big row_len coded_of_row atK drawRegion)
open Go.Proofs.YtgkgdgchkhdgjaaDoor.Flo (excR excR_le sBlackExcess)
open Go.Proofs.YtgkgdgchkhdgjaaDoor.Reg hiding Yes add_none RC rc_start

/-- the law's state: the region in its box, what is reached. -/
structure DF (w : World) (pr : Nat) (va : Value) (Ar : Option Addr) (xs : List Int) (Aw : Option Addr) (Wl : List (Int × Int)) (W : World) : Prop where
  bel : Below w.heap.size w W
  box : Rg W pr va
  row : RowB W W.heap.size Ar xs
  wit : RowK W W.heap.size Aw Wl
theorem DF.on {w W W' : World} {pr : Nat} {va : Value} {Ar Aw : Option Addr} {xs : List Int} {Wl : List (Int × Int)} (k : DF w pr va Ar xs Aw Wl W) (hb : Below W.heap.size W W') : DF w pr va Ar xs Aw Wl W' :=
  ⟨k.bel.trans (hb.mono k.bel.size), k.box.on hb, (k.row.below hb (Nat.le_refl _)).mono hb.size, (k.wit.below hb (Nat.le_refl _)).mono hb.size⟩
/-- black places of the first k. -/
def SomeOf (xs : List Int) (S : List Nat) (k : Nat) : Prop := S.Nodup ∧ (∀ u ∈ S, Blk xs u = true) ∧ ∀ u ∈ S, u ∈ (idl xs).take k
theorem SomeOf.zero (xs : List Int) : SomeOf xs [] 0 := ⟨List.nodup_nil, fun u h => by simp at h, fun u h => by simp at h⟩
theorem SomeOf.skip {xs : List Int} {S : List Nat} {k : Nat} (h : SomeOf xs S k) : SomeOf xs S (k + 1) := ⟨h.1, h.2.1, fun u hu => List.take_subset_take_left _ (Nat.le_succ k) (h.2.2 u hu)⟩
theorem SomeOf.add {xs : List Int} {S : List Nat} {k : Nat} (h : SomeOf xs S k) (hk : k < (idl xs).length) (hb : col (idl xs)[k] = true) : SomeOf xs (S ++ [(idl xs)[k]]) (k + 1) := by
  have hno : (idl xs)[k] ∉ S := fun hm => by
    have h1 := h.2.2 _ hm
    obtain ⟨j, hj, e⟩ := List.getElem_of_mem h1
    rw [List.length_take] at hj
    rw [List.getElem_take] at e
    exact List.pairwise_iff_getElem.1 (idl_nodup xs) j k (by omega) hk (by omega) e
  refine ⟨?_, fun u hu => ?_, fun u hu => ?_⟩
  · rw [List.nodup_append]
    refine ⟨h.1, List.nodup_cons.2 ⟨by simp, List.nodup_nil⟩, fun a ha b hb' e => ?_⟩
    rw [List.mem_singleton.1 hb'] at e
    exact hno (e ▸ ha)
  · rcases List.mem_append.1 hu with q | q
    · exact h.2.1 u q
    · rw [List.mem_singleton.1 q, blk_iff]
      exact ⟨(idl_mem (List.getElem_mem hk)).2.1, hb⟩
  · rw [List.take_succ_eq_append_getElem hk]
    rcases List.mem_append.1 hu with q | q
    · exact List.mem_append_left _ (h.2.2 u q)
    · exact List.mem_append_right _ q
theorem SomeOf.len {xs : List Int} {S : List Nat} {k : Nat} (h : SomeOf xs S k) : S.length ≤ 64 := by
  have h1 := List.Nodup.length_le_of_subset h.1 (l₂ := List.range 64) (fun x hx => List.mem_range.2 (blk64 (h.2.1 x hx)))
  rw [List.length_range] at h1
  exact h1
set_option maxHeartbeats 8000000 in
theorem deficits_law (A : Option Addr) (len cap : Nat) (zs : List Int) (w : World) (h0 : IsRow .u8 w A len cap zs) (hT : Tab w) :
    Calls Tryd.prog 3 #[.slice A len cap] w fun e w' => e = .returned (.bool true) ∧ Below w.heap.size w w' := by
  obtain ⟨i0, hi, hz0, hz1, hz2⟩ := info_parts Cels.cellInfo
  have hlen := row_len h0
  by_cases hbig : (1048576 : Int) < (len : Int)
  · go_enter Tryd.func3, Tryd.ntmps3
    go_wp2_with fail
    refine (big w A len cap hlen).mono ?_
    rintro e w' ⟨rfl, rfl⟩
    go_wp2
    go_ret
    exact ⟨rfl, Below.refl _ _⟩
  · have HC := Lib.hid (coded_of_row h0 (by omega))
    have HAt := Lib.hid (fun W (hb : Below w.heap.size w W) k (hk : k < 64) => atK W A len cap w.heap.size HC.out.1 (HC.out.2.below hb) k hk)
    have HTb := Lib.hid hT
    clear h0 hT
    go_enter Tryd.func3, Tryd.ntmps3
    go_wp2_with fail
    refine (big w A len cap hlen).mono ?_
    rintro e w' ⟨rfl, rfl⟩
    go_wp2_with fail
    refine (drawRegion w A len cap HC.out).mono ?_
    rintro e w1 ⟨xs, Ar, n, cr, HO, HX, rfl, hown, hb1⟩
    have hB1 := hb1.alloc hb1.size (.cells #[.slice Ar n cr] 26)
    have R1 := Rg.new w1 (.slice Ar n cr)
    have Q1 := (rowB_own hown).below (below_alloc1 w1 (.cells #[.slice Ar n cr] 26)) (Nat.le_refl _)
    have Q1 := Q1.mono (below_alloc1 w1 (.cells #[.slice Ar n cr] 26)).size
    clear hown hb1 HC
    have HBg := Lib.hid hbig
    clear hbig hlen
    go_upto_region 4 with fail
    generalize w1.alloc (.cells #[.slice Ar n cr] 26) = W1 at hB1 R1 Q1 ⊢
    generalize w1.heap.size = pr at R1 ⊢
    have hn8 : n ≤ 8 := by have := HO.out.1; have := HX.out; omega
    have hnI : (n : Int) ≤ 9223372036854775807 := by omega
    have HWi := Lib.hid (fun W (hb : Below w.heap.size w W) (q : RowB W W.heap.size Ar xs) => iWitnessOf W Ar n cr W.heap.size xs HX.out hnI q (Nat.le_refl _) (HTb.out.on hb (Nat.le_refl _)))
    have HFr := Lib.hid (fun W (q : RowB W W.heap.size Ar xs) => iFreeBlacks W Ar n cr W.heap.size xs HX.out hnI q (Nat.le_refl _))
    have HCe := Lib.hid (fun W (q : RowB W W.heap.size Ar xs) => idl_cells xs ▸ sCellsOf W Ar n cr W.heap.size xs HX.out hnI q (Nat.le_refl _))
    have hwl := witR_length xs
    have HDw := Lib.hid (fun W (q : RowB W W.heap.size Ar xs) A' c' (q' : RowK W W.heap.size A' (witR xs)) => defR_wit HO.out ▸ iDeficit W Ar n cr W.heap.size xs HX.out hnI q (Nat.le_refl _) A' (witR xs).length c' W.heap.size (witR xs) rfl (by omega) q' (Nat.le_refl _))
    have HDs := Lib.hid (fun W (q : RowB W W.heap.size Ar xs) A' m c' (S : List Nat) (hm : S.length = m) (hm64 : m ≤ 64) (q' : RowK W W.heap.size A' (S.map plc)) => iDeficit W Ar n cr W.heap.size xs HX.out hnI q (Nat.le_refl _) A' m c' W.heap.size (S.map plc) (by rw [List.length_map, hm]) (by omega) q' (Nat.le_refl _))
    have HPr := Lib.hid (fun W (q : RowB W W.heap.size Ar xs) A' c' (q' : RowK W W.heap.size A' (witR xs)) => prfB_wit HO.out ▸ iIsProofOf W Ar n cr W.heap.size xs HX.out hnI q (Nat.le_refl _) A' (witR xs).length c' W.heap.size (witR xs) rfl (by omega) q' (Nat.le_refl _) (freeR xs))
    have HWh := Lib.hid (fun W (hb : Below w.heap.size w W) (q : RowB W W.heap.size Ar xs) A' c' (q' : RowK W W.heap.size A' (witR xs)) => iWhiteAround W Ar n cr W.heap.size xs HX.out hnI q (Nat.le_refl _) A' (witR xs).length c' W.heap.size (witR xs) rfl (by omega) q' (Nat.le_refl _) (HTb.out.on hb (Nat.le_refl _)))
    have HEx := Lib.hid (fun W (q : RowB W W.heap.size Ar xs) => sBlackExcess W Ar n cr W.heap.size xs HX.out hnI q (Nat.le_refl _))
    have HLe := Lib.hid (fun (S : List Nat) k (hS : SomeOf xs S k) => defR_le HO.out hS.1 hS.2.1)
    have hmx := whtR_wit HO.out
    have hef := exc_free HO.out
    have heb := excR_le xs
    have hf0 := freeR_ge xs
    have hf1 := freeR_le xs
    have HLn := Lib.hid (cellsR_length xs)
    rw [idl_cells, List.length_map] at HLn
    unfold Cels.NbPost at HWi HWh
    generalize whtR xs (witR xs) = Hl at HWh hmx
    generalize witR xs = Wl at HWi hwl HDw HPr HWh hmx
    generalize freeR xs = f at HFr HDw HPr HLe hmx hef hf0 hf1
    generalize excR xs = x at HEx hef heb
    obtain ⟨lw, hlw⟩ : ∃ lw, lw = Wl.length := ⟨_, rfl⟩
    obtain ⟨lh, hlh⟩ : ∃ lh, lh = Hl.length := ⟨_, rfl⟩
    rw [← hlw] at HWi hwl HDw HPr HWh hmx
    rw [← hlh] at HWh hmx
    clear hlw hlh hnI hn8
    have c0 := R1.c0
    go_wp2_with fail
    refine (HWi.out _ hB1 Q1).mono ?_
    rintro e w3 ⟨Aw, cw, rfl, hown, hb3⟩
    have D3 : DF w pr (.slice Ar n cr) Ar xs Aw Wl w3 := ⟨hB1.trans (hb3.mono hB1.size), R1.on hb3, (Q1.below hb3 (Nat.le_refl _)).mono hb3.size, rowK_own hown⟩
    clear hB1 R1 Q1 c0 hown hb3 HWi
    have c0 := D3.box.c0
    go_wp2_with fail
    refine (HFr.out _ D3.row).mono ?_
    rintro e w4 ⟨rfl, hb4⟩
    have D4 := D3.on hb4
    clear D3 c0 hb4 HFr
    have c0 := D4.box.c0
    go_wp2_with fail
    refine (HCe.out _ D4.row).mono ?_
    rintro e w5 ⟨A5, cap5, rfl, hown5, hb5⟩
    obtain ⟨b5, off5, hA5, hR5⟩ := Cels.rowC_own hown5
    rw [List.length_map] at hA5 ⊢
    have HA5 := Lib.hid (fun h0 => (hA5 h0).1)
    have HR5 := Lib.hid (show RdC w5 b5 off5 ((idl xs).map plc) from ⟨fun h0 => (hA5 (by rw [List.length_map] at h0; exact h0)).2, hR5⟩)
    have HD5 := Lib.hid (D4.on hb5)
    clear D4 c0 hb5 hown5 hA5 hR5 HCe
    obtain ⟨N, hN⟩ : ∃ N, N = (idl xs).length := ⟨_, rfl⟩
    rw [← hN] at HLn HA5 ⊢
    have HN := Lib.hid hN
    clear hN
    have HNil : (w5.alloc (.cells #[] 33)).ownsRow w5.heap.size 33 2 (.slice (some ⟨w5.heap.size, 0, none⟩) 0 0) 0 (rowC (([] : List Nat).map plc)) :=
      ⟨rfl, .inr ⟨w5.heap.size, 0, #[], rfl, Nat.le_refl _, heap_alloc_new w5 _, Nat.le_refl _, by unfold maxLen; omega, rfl, rfl⟩⟩
    have HNl := Lib.hid HNil
    have hb6 := below_alloc1 w5 (.cells #[] 33)
    have HB6 := Lib.hid hb6
    clear HNil hb6
    go_wp2_with fail
    go_loopw [7, 8] (fun v i wr => ∃ (k c : Nat) (S : List Nat) (As : Option Addr), k ≤ N ∧ i = .int .i64 k ∧ v = .slice As S.length c ∧ Hid (SomeOf xs S k) ∧ wr.ownsRow w5.heap.size 33 2 (.slice As S.length c) S.length (rowC (S.map plc)) ∧ Below w5.heap.size w5 wr) (fun _ i _ => N - (intOf i).toNat)
    case atStart => exact ⟨0, 0, [], _, Nat.zero_le _, rfl, rfl, Lib.hid (SomeOf.zero xs), HNl.out, HB6.out⟩
    case round =>
      clear HNl HB6
      obtain ⟨k, c, S, As, hk, rfl, rfl, HS, hO, hb⟩ := hrel
      have hS64 := HS.out.len
      by_cases hlt : k < N
      · have hti : k < (idl xs).length := by rw [← HN.out]; exact hlt
        have hN64 := HLn.out
        obtain rfl := HA5.out (by omega)
        obtain ⟨c0, c1⟩ := HR5.out.2 k (plc (idl xs)[k]) (by rw [List.getElem?_map, List.getElem?_eq_getElem hti]; rfl)
        have hbl := HR5.out.1 (by rw [List.length_map]; omega)
        have c0 := (hb.cell (p := ⟨b5, off5 + k * 2, none⟩) hbl).trans c0
        have c1 := (hb.cell (p := ⟨b5, off5 + k * 2 + 1, none⟩) hbl).trans c1
        obtain ⟨v64, _, _⟩ := idl_mem (List.getElem_mem hti)
        have HBl := Lib.hid (fun W => CellF.sIsBlack (plc (idl xs)[k]).1 (plc (idl xs)[k]).2 W)
        rw [show blackB (plc (idl xs)[k]).1 (plc (idl xs)[k]).2 = col (idl xs)[k] from col_black v64] at HBl
        have HNx := Lib.hid (fun hc => HS.out.add hti hc)
        have HSk := Lib.hid HS.out.skip
        have hbw := HD5.out.bel.trans (hb.mono HD5.out.bel.size)
        have HCl := Lib.hid (fun W (hbW : Below w5.heap.size w5 W) => show W.cell? ⟨b5, off5 + k * 2, none⟩ = some (.int .i64 (plc (idl xs)[k]).1) ∧ W.cell? ⟨b5, off5 + k * 2 + 1, none⟩ = some (.int .i64 (plc (idl xs)[k]).2) from by
          obtain ⟨p0, p1⟩ := HR5.out.2 k (plc (idl xs)[k]) (by rw [List.getElem?_map, List.getElem?_eq_getElem hti]; rfl)
          exact ⟨(hbW.cell (p := ⟨b5, off5 + k * 2, none⟩) hbl).trans p0, (hbW.cell (p := ⟨b5, off5 + k * 2 + 1, none⟩) hbl).trans p1⟩)
        generalize (idl xs)[k] = v at c0 c1 HBl HNx HCl
        obtain ⟨vx, hvx⟩ : ∃ q, q = (plc v).1 := ⟨_, rfl⟩
        obtain ⟨vy, hvy⟩ : ∃ q, q = (plc v).2 := ⟨_, rfl⟩
        rw [← hvx] at c0 HBl HCl
        rw [← hvy] at c1 HBl HCl
        have HV := Lib.hid (show plc v = (vx, vy) by rw [hvx, hvy])
        have HO2 := Lib.hid hO
        clear hvx hvy hO v64
        go_wp2_with fail
        refine (HBl.out _).mono ?_
        rintro e w7 ⟨rfl, hb7⟩
        have B7 := hb.trans (hb7.mono hb.size)
        have HO7 := Lib.hid (Reg.own_below HO2.out hb7 (Nat.le_refl _))
        have hbw7 := hbw.trans (hb7.mono hbw.size)
        clear hb hbw hb7 HBl HO2 c0 c1
        cases hc : col v with
        | false =>
          clear hc HNx HCl
          go_wp2
          go_roundw
          case rel => exact ⟨k + 1, c, S, As, by omega, by go_num, rfl, HSk, HO7.out, B7⟩
          case measure => (simp [intOf] <;> omega)
        | true =>
          go_wp2_with fail
          refine (HAt.out _ hbw7 k (by omega)).mono ?_
          rintro e w8 ⟨a, ⟨ha0, ha1⟩, rfl, rfl⟩
          obtain ⟨q, hq⟩ : ∃ q : Bool, ((a % 2 : Int) == 1) = q := ⟨_, rfl⟩
          have hq2 : (a.tmod 2 == 1) = q := by rw [Int.tmod_eq_emod_of_nonneg ha0]; exact hq
          cases q with
          | false =>
            clear HNx HCl
            go_wp2
            go_roundw
            case rel => exact ⟨k + 1, c, S, As, by omega, by go_num, rfl, HSk, HO7.out, B7⟩
            case measure => (simp [intOf] <;> omega)
          | true =>
            have HS2 := Lib.hid (HNx.out hc)
            obtain ⟨c0, c1⟩ := HCl.out _ B7
            have hs7 := B7.size
            clear HSk HNx HCl hc
            go_wp2_with (first
              | (at_builtin; refine wpList_append_own _ rfl _ _ 28 rfl w5.heap.size 33 i0 (.agg #[.int .i64 0, .int .i64 0]) 2 16 Tryd.underlying28 hi hz0 hz1 hz2 rfl (by decide) _ S.length (rowC (S.map plc)) rfl (HO7.out.alloc _) ⟨w8.heap.size, 0, none⟩ 1 1 [.int .i64 vx, .int .i64 vy] rfl rfl (World.news_of_block (cs := #[.int .i64 vx, .int .i64 vy]) (t := 33) (fr := (0, 0)) (heap_alloc_new w8 _)) (by simp [Value.oneCell']) (by unfold maxLen; omega) (by omega) (by simp; omega) ?_; intro v2 w9 hown9 hgrow _))
            have hb9 : Below w5.heap.size w5 w9 := (B7.alloc (by omega) _).grown hgrow (by simp; omega) (fun g hg => (HO7.out.lt g hg).1)
            obtain ⟨A9, c9, rfl⟩ := own_shape hown9
            have hln : (S ++ [v]).length = S.length + 1 := by rw [List.length_append]; rfl
            have R := Lib.hid (show w9.ownsRow w5.heap.size 33 2 (.slice A9 (S ++ [v]).length c9) (S ++ [v]).length (rowC ((S ++ [v]).map plc)) by
              rw [hln, List.map_append, List.map_singleton, HV.out, rowC_snoc]; exact hown9)
            clear hown9 hgrow c0 c1
            go_wp2
            go_roundw
            case rel => exact ⟨k + 1, c9, S ++ [v], A9, by omega, by go_num, by rw [hln], HS2, R.out, hb9⟩
            case measure => (simp [intOf] <;> omega)
      · obtain rfl : k = N := by omega
        have hd := HLe.out S k HS.out
        have HRs := Lib.hid (rowK_own hO)
        have HDx := Lib.hid (fun W (q : RowB W W.heap.size Ar xs) (q' : RowK W W.heap.size As (S.map plc)) => HDs.out W q As S.length c S rfl hS64 q')
        generalize defR xs (S.map plc) = d at hd HDx
        obtain ⟨p, hp⟩ : ∃ p, p = decide (0 < f) := ⟨_, rfl⟩
        rw [← hp] at HPr
        have D6 := HD5.out.on hb
        clear HS hO hb HLe HDs HAt HTb hS64 HN HA5 HR5
        have K6 := HRs.out
        have hp2 := hp.symm
        have hpp : (p == p) = true := by simp
        have hff : (f == f) = true := by simp
        have hw1 : IntKind.i64.wrap ((lw : Int) - f) = (lw : Int) - f := by rw [IntKind.wrap_i64]; omega
        have hw2 : IntKind.i64.wrap (f - x) = f - x := by rw [IntKind.wrap_i64]; omega
        have hee : ((lh : Int) == (lw : Int) - f) = true := by rw [hmx]; simp
        have hg0 : 0 ≤ f - x := by omega
        have HEf := Lib.hid hef
        clear hmx hef heb hp HRs
        have c0 := D6.box.c0
        go_wp2_with fail
        refine (HDw.out _ D6.row _ _ D6.wit).mono ?_
        rintro e w7 ⟨rfl, hb7⟩
        have D7 := D6.on hb7
        have K7 := (K6.below hb7 (Nat.le_refl _)).mono hb7.size
        clear D6 K6 c0 hb7 HDw
        have c0 := D7.box.c0
        go_wp2_with fail
        refine (HDx.out _ D7.row K7).mono ?_
        rintro e w8 ⟨rfl, hb8⟩
        have D8 := D7.on hb8
        clear D7 K7 c0 hb8 HDx
        have c0 := D8.box.c0
        go_wp2_with fail
        refine (HPr.out _ D8.row _ _ D8.wit).mono ?_
        rintro e w9 ⟨rfl, hb9⟩
        have D9 := D8.on hb9
        clear D8 c0 hb9 HPr
        have c0 := D9.box.c0
        go_wp2_with fail
        refine (HWh.out _ D9.bel D9.row _ _ D9.wit).mono ?_
        rintro e w10 ⟨A10, c10, rfl, _, hb10⟩
        have D10 := D9.on hb10
        clear D9 c0 hb10 HWh
        have c0 := D10.box.c0
        go_wp2_with fail
        refine (HEx.out _ D10.row).mono ?_
        rintro e w11 ⟨rfl, hb11⟩
        have hb := (D10.on hb11).bel
        clear D10 c0 hb11 HEx
        go_wp2
        go_ret
        refine ⟨?_, hb⟩
        show Ending.returned (Value.bool (decide (x ≤ f))) = _
        rw [decide_eq_true HEf.out]
end Go.Proofs.YtgkgdgchkhdgjaaDoor.Def
