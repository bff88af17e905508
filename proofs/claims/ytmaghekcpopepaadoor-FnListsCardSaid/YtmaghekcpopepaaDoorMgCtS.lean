/- RegCn, CoL, CtI, RegRc, CtS in one text. -/
import Derived.Test.YtmaghekcpopepaaDoorMgCls
import Derived.Test.YtmaghekcpopepaaDoorGoW
import Derived.Test.YtmaghekcpopepaaDoorMgReg
import Derived.Deep.RegionHeld3
import Derived.Deep.DeepAppendRoom
import Derived.Deep.RegionLaw
import Derived.BigRegion

/- CountCells: the program's function and the model's. -/
namespace Go.Proofs.YtmaghekcpopepaaDoor.Reg
set_option linter.unusedVariables false
open Go.RowKit Go.Proofs.YtmaghekcpopepaaDoor.Base Go.Proofs.YtmaghekcpopepaaDoor.Pure Go.Proofs.YtmaghekcpopepaaDoor.Cell Go.Proofs.YtmaghekcpopepaaDoor.Cels Go.Joins

/-- how many cells a region has. -/
def countR (xs : List Int) : Int := ((cellsR xs).length : Int)

set_option maxHeartbeats 400000 in
theorem iCountCells (w : World) (A : Option Addr) (n cap B : Nat) (xs : List Int) (hx : xs.length = n) (hn : (n : Int) ≤ 9223372036854775807) (h : RowB w B A xs) (hB : B ≤ w.heap.size) :
    Calls Tryd.prog 36 #[.agg #[.slice A n cap]] w (Num (countR xs) w) := by
  have HC := Lib.hid (fun W (hb : Below w.heap.size w W) => iCellsOf W A n cap B xs hx hn (h.below hb hB) (by have := hb.size; omega))
  have HB := Lib.hid (fun (o1 : Obj) => below_alloc1 w o1)
  have HE := Lib.hid (show countR xs = ((cellsR xs).length : Int) from rfl)
  clear hx hn h
  generalize cellsR xs = L at HC HE
  go_enter Tryd.func36, Tryd.ntmps36
  go_wp2_with fail
  refine (HC.out _ (HB.out _)).mono ?_
  rintro e w1 ⟨A1, cap1, rfl, _, hb1⟩
  have hb := (HB.out (.cells #[.slice A n cap] 26)).trans (hb1.mono (by simp))
  clear hb1
  go_wp2
  go_ret
  exact mkNum HE.out.symm hb

set_option maxHeartbeats 400000 in
theorem sCountCells (w : World) (A : Option Addr) (n cap B : Nat) (xs : List Int) (hx : xs.length = n) (hn : (n : Int) ≤ 9223372036854775807) (h : RowB w B A xs) (hB : B ≤ w.heap.size) :
    Calls Tryd.prog 39 #[.agg #[.slice A n cap]] w (Num (countR xs) w) := by
  have HC := Lib.hid (fun W (hb : Below w.heap.size w W) => sCellsOf W A n cap B xs hx hn (h.below hb hB) (by have := hb.size; omega))
  have HB := Lib.hid (fun (o1 : Obj) => below_alloc1 w o1)
  have HE := Lib.hid (show countR xs = ((cellsR xs).length : Int) from rfl)
  clear hx hn h
  generalize cellsR xs = L at HC HE
  go_enter Tryd.func39, Tryd.ntmps39
  go_wp2_with fail
  refine (HC.out _ (HB.out _)).mono ?_
  rintro e w1 ⟨A1, cap1, rfl, _, hb1⟩
  have hb := (HB.out (.cells #[.slice A n cap] 26)).trans (hb1.mono (by simp))
  clear hb1
  go_wp2
  go_ret
  exact mkNum HE.out.symm hb
end Go.Proofs.YtmaghekcpopepaaDoor.Reg

/- The program's count of lists: from cell to cell. -/
namespace Go.Proofs.YtmaghekcpopepaaDoor.Prof
set_option linter.unusedVariables false
set_option linter.unusedSimpArgs false
open Go.RowKit Go.Proofs.YtmaghekcpopepaaDoor.Base Go.Proofs.YtmaghekcpopepaaDoor.Pure Go.Proofs.YtmaghekcpopepaaDoor.Cell Go.Proofs.YtmaghekcpopepaaDoor.Cels Go.Proofs.YtmaghekcpopepaaDoor.Reg Go.Proofs.YtmaghekcpopepaaDoor.Cnt Go.Joins
open Go.Maps (Keyed)

theorem plcN_end (xs : List Int) : plcN xs (idxs xs).length = 64 := by unfold plcN; simp [List.getD]
theorem idxs_len (xs : List Int) : (idxs xs).length ≤ 64 := by
  unfold idxs; exact Nat.le_trans (List.length_filter_le _ _) (by simp)
theorem plcN_le (xs : List Int) (j : Nat) : plcN xs j ≤ 64 := by
  by_cases h : j < (idxs xs).length
  · exact Nat.le_of_lt ((idxs_lists xs).mem j h).1
  · unfold plcN; rw [List.getD, List.getElem?_eq_none (by omega)]; exact Nat.le_refl _
/-- between two cells of the list no cell lies. -/
theorem plcN_gap {xs : List Int} {j i : Nat} (hj : j ≤ (idxs xs).length) (h0 : ∀ j', j' < j → plcN xs j' < i) (h : i < plcN xs j) : gR xs i = false := by
  cases hg : gR xs i with
  | false => rfl
  | true =>
    have h64 := plcN_le xs j
    obtain ⟨j0, hl, e⟩ := (idxs_lists xs).all i (by omega) hg
    by_cases q : j0 < j
    · have := h0 j0 q; omega
    · by_cases r : j = j0
      · rw [r] at h; omega
      · have := (idxs_lists xs).asc j j0 (by omega) hl; omega
theorem plcN_step {xs : List Int} {j : Nat} (hj : j < (idxs xs).length) : plcN xs j + 1 ≤ plcN xs (j + 1) := by
  by_cases h : j + 1 < (idxs xs).length
  · exact (idxs_lists xs).asc j (j + 1) (by omega) h
  · have := plcN_end xs
    rw [show j + 1 = (idxs xs).length by omega, this]
    exact ((idxs_lists xs).mem j hj).1
/-- before the j-th cell. -/
def CI (xs : List Int) (fr : Bool) (j : Nat) (Db : DataW Unit) : Prop := KD Db (gR xs) (plcN xs j) j ∧ ∀ N, D (sumV (gR xs) fr N (64 - plcN xs j) (plcN xs j) (vw Db)) (V (gR xs) fr N 64 0 0 0 : Int)
theorem CI.start (xs : List Int) (fr : Bool) : CI xs fr 0 ((DataW.map []).put (kI 0) (.lit (.int .i64 1))) := by
  refine ⟨KD.none.put Maps.isMap_empty (by omega) Vd_zero _, fun N => ?_⟩
  rw [sumV_congr (fun i hi => vw_put Maps.isMap_empty (t := 0) (by omega) 1 (i := i) (by omega))]
  rw [sumV_start (upd_at _ _ _) (fun i _ hne => by rw [upd_ne hne]; exact vw_none i)]
  have h := V_skip (g := gR xs) (fr := fr) (e := N) (s := 0) (d := 0) (plcN xs 0) (64 - plcN xs 0) 0 (fun i _ hi => plcN_gap (j := 0) (Nat.zero_le _) (fun j' hj' => by omega) (by omega))
  have h64 := plcN_le xs 0
  rw [show 64 - plcN xs 0 + plcN xs 0 = 64 by omega, Nat.zero_add] at h
  rw [h]; exact D.refl _
theorem CI.step {xs : List Int} {fr : Bool} {j : Nat} {Db Da : DataW Unit} (hj : j < (idxs xs).length) (h : CI xs fr j Db) (hg : GoR (gR xs) fr (plcN xs j) j Db Da) : CI xs fr (j + 1) Da := by
  have hk := ((idxs_lists xs).mem j hj).1
  have h1 := plcN_step hj
  have h64 := plcN_le xs (j + 1)
  have hgap : ∀ i, plcN xs j + 1 ≤ i → i < plcN xs j + 1 + (plcN xs (j + 1) - (plcN xs j + 1)) → gR xs i = false := fun i p1 p2 =>
    plcN_gap (j := j + 1) (by omega) (fun j' hj' => by
      by_cases q : j' = j
      · rw [q]; omega
      · have := (idxs_lists xs).asc j' j (by omega) hj; omega) (by omega)
  refine ⟨fun kl hk => ?_, fun N => ?_⟩
  · obtain ⟨i, hi, e, hv⟩ := hg.1 kl hk
    have := Vd_skip _ _ hv hgap
    rw [show plcN xs j + 1 + (plcN xs (j + 1) - (plcN xs j + 1)) = plcN xs (j + 1) by omega] at this
    exact ⟨i, hi, e, this⟩
  · have h2 := hg.2 N
    have h3 := h.2 N
    rw [show 63 - plcN xs j + 1 = 64 - plcN xs j by omega] at h2
    have h4 := sumV_skip (g := gR xs) (fr := fr) (e := N) (n := 64 - plcN xs (j + 1)) (a := vw Da) hgap
    rw [show 64 - plcN xs (j + 1) + (plcN xs (j + 1) - (plcN xs j + 1)) = 63 - plcN xs j by omega, show plcN xs j + 1 + (plcN xs (j + 1) - (plcN xs j + 1)) = plcN xs (j + 1) by omega] at h4
    rw [h4] at h2
    exact h2.symm.trans h3
/-- behind the last cell. -/
def CL (xs : List Int) (fr : Bool) (Db : DataW Unit) : Prop := KD Db (gR xs) 64 64 ∧ ∀ N, N < 65 → D (vw Db (256 * N)) (V (gR xs) fr N 64 0 0 0 : Int)
theorem CI.last {xs : List Int} {fr : Bool} {Db : DataW Unit} (h : CI xs fr (idxs xs).length Db) : CL xs fr Db := by
  obtain ⟨h1, h2⟩ := h
  rw [plcN_end] at h1 h2
  have hl := idxs_len xs
  refine ⟨fun kl hk => ?_, fun N hN => ?_⟩
  · obtain ⟨i, hi, e, hv⟩ := h1 kl hk
    exact ⟨i, by omega, e, hv⟩
  · have := h2 N
    rw [show 64 - 64 = 0 from rfl, sumV_last hN] at this
    exact this
/-- a map's entry is laid in a literal. -/
theorem wpList_insert {ops : Array Oper} {rest : List Oper} {o : Oper} {a : Act} {Q : Exit → Act → World → Prop} (w : World)
    (hg : o.guard = none) (m x v : Operand) (hop : o.op = Op.insert 58 m x v) (b n : Nat) (Db : DataW Unit)
    (hm : a.eval m = .map (some b)) (hown : w.ownsMap Tryd.prog 61 RE b n Db) (hn : n < maxLen) (key val : Value) (kl : Lit) (hx : a.eval x = key) (hv : a.eval v = val) (hkey : keyOf Tryd.prog 61 key = some kl)
    (d : DataW Unit) (ps : List MemPlace) (hval : RE val = some (d, ps))
    (hK : ∀ w', w'.ownsMap Tryd.prog 61 RE b (n + 1) (Db.put kl d) → w.grownBy w' (some b) → wpList Tryd.prog ops Q rest (a.put o.dst undef) w') :
    wpList Tryd.prog ops Q (o :: rest) a w := by
  refine wpList_plain hg fun K' hK' => ?_
  obtain ⟨w', hrun, r1, r2⟩ := hown.update law ut hn hkey hval
  unfold Oper.wp
  simp [execOp, hop, hm, hx, hv, hrun, Result.andThen]
  exact hK' _ _ (hK w' r1 r2)
theorem run_makeMap0 {w : World} : (Instr.makeMap 58 none).run Tryd.prog w = .ok (.map (some w.heap.size)) (w.alloc (.map #[] 0)) := rfl

/-- what the count holds: the parameter's box, the list of the cells. -/
def PK (w : World) (v : Value) (lo hi : Nat) (u : Value) (m : Nat) (L : List (Int × Int)) (W : World) : Prop := RB w v W ∧ RowIn W lo hi 68 2 u m (rowC L)
theorem PK.on {w W W' : World} {v u : Value} {lo hi m : Nat} {L : List (Int × Int)} (h : PK w v lo hi u m L W) (hb : Below W.heap.size W W') : PK w v lo hi u m L W' := ⟨h.1.on hb, h.2.on hb⟩
theorem own_at {w : World} {base e size n g c : Nat} {xs : List Value} (h : w.ownsRow base e size (.slice (some ⟨g, 0, none⟩) n c) n xs) {j : Nat} {u : Value} (hj : xs[j]? = some u) : w.cell? ⟨g, j, none⟩ = some u := by
  have := h.cells (g := g) rfl j u hj
  rwa [add_plain] at this
theorem cells_idx {xs : List Int} (ho : okR xs) : (cellsR xs).length = (idxs xs).length ∧ ∀ j, j < (idxs xs).length → (cellsR xs)[j]? = some (((plcN xs j % 8 : Nat) : Int), ((plcN xs j / 8 : Nat) : Int)) := by
  rw [cellsR_ok ho, idxs_cells]
  refine ⟨by simp, fun j hj => ?_⟩
  rw [List.getElem?_map, List.getElem?_eq_getElem hj, plcN_at hj]; rfl

set_option maxRecDepth 100000 in
set_option maxHeartbeats 4000000 in
theorem iCountLists (w : World) (A : Option Addr) (n cap B : Nat) (xs : List Int) (hx : xs.length = n) (hn : (n : Int) ≤ 9223372036854775807) (ho : okR xs) (h : RowB w B A xs) (hB : B ≤ w.heap.size) (fr : Bool) :
    Calls Tryd.prog 35 #[.agg #[.slice A n cap], .bool fr] w (fun e w' => ∃ m' Da, e = .returned (.map (some m')) ∧ Own w' m' Da ∧ CL xs fr Da ∧ Below w.heap.size w w') := by
  have hmm := @run_makeMap0
  have T0 := Lib.hid (fun (T : TypeId) => rb_start (T := T) (.slice A n cap) w)
  have HC := Lib.hid (fun W (hb : RB w (.slice A n cap) W) => iCellsOf W A n cap B xs hx hn (h.below hb.1 hB) (by have := hb.2.1; omega))
  have HGo := Lib.hid (fun W (hb : Below w.heap.size w W) k q x y hk hxk hyk hgk hq m Db hm hkd => iGoPast W A n cap B xs hx hn ho (h.below hb hB) (by have := hb.size; omega) k q x y hk hxk hyk hgk hq fr m Db hm hkd)
  have HI0 := Lib.hid (CI.start xs fr)
  have HSt := Lib.hid (fun j Db Da (hj : j < (idxs xs).length) (h : CI xs fr j Db) (hg : GoR (gR xs) fr (plcN xs j) j Db Da) => CI.step hj h hg)
  have HLa := Lib.hid (fun Db (h : CI xs fr (idxs xs).length Db) => CI.last h)
  have HM := Lib.hid (fun j (hj : j < (idxs xs).length) => (idxs_lists xs).mem j hj)
  have HL := Lib.hid (cells_idx ho)
  have hlen := idxs_len xs
  clear hx hn ho h hB
  go_enter Tryd.func35, Tryd.ntmps35
  go_wp2_with (first
    | (refine wpList_insert _ rfl _ _ _ rfl (w.heap.size + 1) 0 (.map []) rfl (by have := World.ownsMap_made (w.alloc (.cells #[.slice A n cap] 26)) Tryd.prog 61 RE; rwa [show (w.alloc (.cells #[.slice A n cap] 26)).heap.size = w.heap.size + 1 by simp] at this) (by unfold maxLen; omega) _ _ (k2 0 0) rfl rfl (key2 (by decide) (by decide)) _ [] (plainElem_int (H := Unit) ui (a := 1) (by decide)) ?_; intro w1 hown1 hg1; (have hb1 : Below (w.heap.size + 1) (w.alloc (.cells #[.slice A n cap] 26)) w1 := ((Below.refl _ _).alloc (by simp) _).grown hg1 (by simp) (fun j e => by cases e; exact Nat.le_refl _)); (have T1 := (T0.out 26).onB hb1 (Nat.le_refl _)); (have c0 := T1.2.2))
    | fail)
  have O1 := Lib.hid (show Own w1 (w.heap.size + 1) ((DataW.map []).put (kI 0) (.lit (.int .i64 1))) from World.ownsMap.mono hown1 (by omega))
  clear T0 hown1 hg1 hb1 hmm
  refine (HC.out _ T1).mono ?_
  rintro e w2 ⟨A1, c1, rfl, hown, hb2⟩
  have P2 := Lib.hid (show PK w (.slice A n cap) w1.heap.size w2.heap.size (.slice A1 (cellsR xs).length c1) (cellsR xs).length (cellsR xs) w2 from ⟨T1.on hb2, rowIn_new hown⟩)
  have O2 := Lib.hid (O1.out.on hb2)
  clear HC T1 c0 hown hb2 O1
  generalize w1.heap.size = lo at P2
  generalize w2.heap.size = hi at P2
  generalize w.heap.size + 1 = m0 at O2 ⊢
  rw [HL.out.1] at P2 ⊢
  generalize (DataW.map []).put (kI 0) (.lit (.int .i64 1)) = D0 at O2 HI0
  obtain ⟨M, hM⟩ : ∃ M, M = (idxs xs).length := ⟨_, rfl⟩
  rw [← hM] at P2 hlen HSt HLa HM HL ⊢
  clear hM
  have HLe := Lib.hid HL.out.2
  clear HL
  generalize cellsR xs = L at P2 HLe
  go_wp2_with fail
  go_loopw [5, 14] (fun cv iv wr => ∃ (j m : Nat) (Db : DataW Unit), j ≤ M ∧ iv = .int .i64 (j : Int) ∧ cv = .map (some m) ∧ PK w (.slice A n cap) lo hi (.slice A1 M c1) M L wr ∧ Own wr m Db ∧ CI xs fr j Db) (fun _ iv _ => M - (intOf iv).toNat)
  case atStart => exact ⟨0, m0, D0, Nat.zero_le _, rfl, rfl, P2.out, O2.out, HI0.out⟩
  case round =>
    clear P2 O2 HI0
    obtain ⟨j, m, Db, hj, rfl, rfl, P1, O1, I1⟩ := hrel
    by_cases hlt : j < M
    · obtain ⟨hk64, hgk⟩ := HM.out j hlt
      have hLj := HLe.out j hlt
      obtain ⟨nb, c', hv1, _, _⟩ := P1.2.1.form (by omega)
      injection hv1 with hA2 hm2 hc2
      subst hA2
      subst hc2
      obtain ⟨q1, q2⟩ := rowC_at L j _ hLj
      have c0 := own_at P1.2.1 q1
      have c1' := own_at P1.2.1 q2
      clear q1 q2 hLj
      obtain ⟨k, hk⟩ : ∃ k, k = plcN xs j := ⟨_, rfl⟩
      have HS := Lib.hid (fun Da (hg : GoR (gR xs) fr k j Db Da) => HSt.out j Db Da hlt I1 (by rw [← hk]; exact hg))
      have hkd : KD Db (gR xs) k j := by rw [hk]; exact I1.1
      rw [← hk] at hk64 hgk c0 c1'
      clear hk
      obtain ⟨x, hx⟩ : ∃ x, x = k % 8 := ⟨_, rfl⟩
      obtain ⟨y, hy⟩ : ∃ y, y = k / 8 := ⟨_, rfl⟩
      rw [← hx] at c0
      rw [← hy] at c1'
      have HG := Lib.hid (fun W (hb : Below w.heap.size w W) (hm : Own W m Db) => HGo.out W hb k j x y hk64 hx hy hgk (by omega) m Db hm hkd)
      have HP := Lib.hid P1
      have HO := Lib.hid O1
      have HI := Lib.hid I1
      clear hx hy hkd hgk hk64 P1 O1 I1
      go_upto_region 5 with fail
      have hba := below_alloc1 wr (.cells #[.int .i64 (x : Int), .int .i64 (y : Int)] 68)
      have P3 := HP.out.on hba
      have O3 := HO.out.on hba
      have r0 := P3.1.2.2
      have hp0 := (cellAt (heap_alloc_new wr (.cells #[.int .i64 (x : Int), .int .i64 (y : Int)] 68)) 0).1
      have hp1 := (cellAt (heap_alloc_new wr (.cells #[.int .i64 (x : Int), .int .i64 (y : Int)] 68)) 1).1
      generalize wr.alloc (.cells #[.int .i64 (x : Int), .int .i64 (y : Int)] 68) = W3 at P3 O3 r0 hp0 hp1 ⊢
      have p0 := hp0.trans (show _ = some (Value.int .i64 (x : Int)) from rfl)
      have p1 := hp1.trans (show _ = some (Value.int .i64 (y : Int)) from rfl)
      clear hba HP HO hp0 hp1
      go_wp2_with fail
      refine (HG.out _ P3.1.1 O3).mono ?_
      rintro e w5 ⟨m', Da, rfl, O5, G5, _, hb5⟩
      have P5 := P3.on hb5
      have I5 := HS.out Da G5
      clear P3 O3 r0 p0 p1 G5 hb5
      go_wp2
      go_roundw
      case rel => exact ⟨j + 1, m', Da, by omega, by go_num, rfl, P5, O5, I5⟩
      case measure => (simp [intOf] <;> omega)
    · obtain rfl : j = M := by omega
      have HP := Lib.hid P1
      have HO := Lib.hid O1
      have HI := Lib.hid (HLa.out Db I1)
      clear P1 O1 I1
      go_wp2
      go_ret
      exact ⟨m, Db, rfl, HO.out, HI.out, HP.out.1.1⟩
end Go.Proofs.YtmaghekcpopepaaDoor.Prof

/- The program's CountTilings and CountPartials. -/
namespace Go.Proofs.YtmaghekcpopepaaDoor.Prof
set_option linter.unusedVariables false
set_option maxRecDepth 100000
set_option linter.unusedSimpArgs false
open Go.RowKit Go.Proofs.YtmaghekcpopepaaDoor.Base Go.Proofs.YtmaghekcpopepaaDoor.Pure Go.Proofs.YtmaghekcpopepaaDoor.Cell Go.Proofs.YtmaghekcpopepaaDoor.Cels Go.Proofs.YtmaghekcpopepaaDoor.Reg Go.Proofs.YtmaghekcpopepaaDoor.Cnt Go.Joins
open Go.Maps (Keyed)

theorem wf_wrap {c : Int} (h : (Lit.int .i64 c).wf = true) : wrap64 c = c := by
  have h := bounds_i64 h
  unfold wrap64; omega
/-- what stands at the key of n dominoes and no covered cell. -/
theorem last_at {w : World} {m : Nat} {Da : DataW Unit} {xs : List Int} {fr : Bool} (ho : Own w m Da) (h : CL xs fr Da) (e : Nat) (he : (Lit.int .i64 (e : Int)).wf = true) :
    (Instr.lookup 58 (.map (some m)) (.agg #[.int .i64 0, .int .i64 (e : Int)]) false).run Tryd.prog w = .ok (.int .i64 (if e < 65 then wrap64 (V (gR xs) fr e 64 0 0 0 : Int) else 0)) w := by
  have hk := key2 (a := 0) (b := (e : Int)) (by decide) he
  obtain ⟨st, w1, hwf, hl, _⟩ := own_raise ho hk
  rw [hl]
  congr 2
  by_cases q : e < 65
  · rw [if_pos q]
    have hi : k2 0 (e : Int) = kI (256 * e) := by
      unfold kI
      rw [show 256 * e % 256 = 0 by omega, show 256 * e / 256 = e by omega]; rfl
    rw [hi] at hwf ⊢
    have := (h.2 e q).wrap
    rw [← this]
    exact (wf_wrap hwf).symm
  · rw [if_neg q]
    congr 1
    refine at2_not ?_
    cases hh : Maps.has Da (k2 0 (e : Int)) with
    | false => rfl
    | true =>
      obtain ⟨i, hi, ei, _⟩ := h.1 _ hh
      obtain ⟨_, h2⟩ := k2_inj (by decide) he (wf_nat (by omega)) (wf_nat (by omega)) ei
      omega
theorem tiles_half {xs : List Int} (ho : okR xs) : (if (idxs xs).length / 2 < 65 then wrap64 (V (gR xs) false ((idxs xs).length / 2) 64 0 0 0 : Int) else 0) = tilesR xs := by
  have hl := idxs_len xs
  rw [if_pos (by omega), tilesR_ok ho, V_tiles (gR_out xs), idxs_cnt]
  by_cases q : (idxs xs).length = 2 * ((idxs xs).length / 2)
  · rw [if_pos q]
  · rw [if_neg q]
    have : tiles (gR xs) = 0 := by
      cases h : tiles (gR xs) with
      | zero => rfl
      | succ t => have := tiles_even (xs := xs) (by omega); omega
    rw [this]

set_option maxRecDepth 100000 in
set_option maxHeartbeats 4000000 in
theorem iCountTilings (w : World) (A : Option Addr) (n cap B : Nat) (xs : List Int) (hx : xs.length = n) (hn : (n : Int) ≤ 9223372036854775807) (h : RowB w B A xs) (hB : B ≤ w.heap.size) :
    Calls Tryd.prog 11 #[.agg #[.slice A n cap]] w (Num (tilesR xs) w) := by
  have T0 := Lib.hid (fun (T : TypeId) => rb_start (T := T) (.slice A n cap) w)
  have HOk := Lib.hid (fun W (hb : RB w (.slice A n cap) W) => iRegionOk W A n cap B xs hx hn (h.below hb.1 hB) (by have := hb.2.1; omega))
  have HCt := Lib.hid (fun W (hb : RB w (.slice A n cap) W) => iCountCells W A n cap B xs hx hn (h.below hb.1 hB) (by have := hb.2.1; omega))
  have HCl := Lib.hid (fun W (ho : okR xs) (hb : RB w (.slice A n cap) W) => iCountLists W A n cap B xs hx hn ho (h.below hb.1 hB) (by have := hb.2.1; omega) false)
  by_cases ho : okR xs
  · rw [okRB_of ho] at HOk
    have HE := Lib.hid (tiles_half ho)
    have hl := idxs_len xs
    have hcn : countR xs = ((idxs xs).length : Int) := by unfold countR; rw [(cells_idx ho).1]
    rw [hcn] at HCt
    obtain ⟨e2, he2⟩ : ∃ e2, e2 = (idxs xs).length / 2 := ⟨_, rfl⟩
    rw [← he2] at HE
    have HLk := Lib.hid (fun W m Da (hO : Own W m Da) (hC : CL xs false Da) => last_at hO hC e2 (wf_nat (by omega)))
    have HW := Lib.hid (show IntKind.i64.wrap (((idxs xs).length : Int) / 2) = (e2 : Int) from by rw [wrap_is]; unfold wrap64; omega)
    clear he2
    have HCL := Lib.hid (fun W (hb : RB w (.slice A n cap) W) => HCl.out W ho hb)
    generalize (idxs xs).length = M at HCt HW hl
    generalize hT : tilesR xs = T at HE ⊢
    generalize (if e2 < 65 then wrap64 (V (gR xs) false e2 64 0 0 0 : Int) else 0) = T' at HE HLk
    clear hx hn h hB HCl ho hcn hT
    go_enter Tryd.func11, Tryd.ntmps11
    go_wp2_with fail
    refine (HOk.out _ (T0.out _)).mono ?_
    rintro e w1 ⟨rfl, hb1⟩
    have T1 := (T0.out 26).on hb1
    clear T0 HOk hb1
    go_wp2_with fail
    refine wp_region_noPanic ?_
    have T2 := T1.drew
    refine wp_region_held_drew (S := (fun w' => w'.cell? ⟨w.heap.size, 0, none⟩ = some (.slice A n cap))) (by kernel_rfl) (T2.2.2) (fun hHeld => ?_)
    generalize World.drew _ = WR at T2 hHeld ⊢
    clear T1
    refine wpAnyH_take (i := 0) (v := ?_) rfl (by kernel_rfl) (by kernel_rfl) (by kernel_rfl) (fun _ _ _ h => h) (Or.inl ⟨by rfl, ?_⟩) (by assumption) ?_
    rotate_left
    · (intro w' hS; (try dsimp only at hS); go_simp; try with_reducible rfl)
    try simp only [Act.put, List.getElem_toArray, List.getElem_cons_succ, List.getElem_cons_zero, List.setIfInBounds_toArray, List.set_cons_zero, List.set_cons_succ]
    refine wpAnyH_take (i := 2) (v := ?_) rfl (by kernel_rfl) (by kernel_rfl) (by kernel_rfl) (fun _ _ _ h => h) (Or.inl ⟨by rfl, ?_⟩) (by assumption) ?_
    rotate_left
    · (intro w' hS; (try dsimp only at hS); go_simp; try with_reducible rfl)
    try simp only [Act.put, List.getElem_toArray, List.getElem_cons_succ, List.getElem_cons_zero, List.setIfInBounds_toArray, List.set_cons_zero, List.set_cons_succ]
    refine wpAnyH_ready (rs := [1]) (by kernel_rfl) (by simp) ?_
    refine AllReadyH.cons rfl (fun K hK => ?_) AllReadyH.nil
    go_simp
    refine (HCL.out _ T2).mono ?_
    rintro e wx ⟨m, Da, rfl, O2, C2, hbx⟩
    have T2 := T2.on hbx
    clear hbx
    go_wp2_with fail
    refine hK.out _ _ (T2.2.2) (fun hHeld => ?_)
    clear hK K
    try simp only [Act.put, List.getElem_toArray, List.getElem_cons_succ, List.getElem_cons_zero, List.setIfInBounds_toArray, List.set_cons_zero, List.set_cons_succ]
    refine wpAnyH_ready (rs := [3]) (by kernel_rfl) (by simp) ?_
    refine AllReadyH.cons rfl (fun K hK => ?_) AllReadyH.nil
    go_simp
    refine (HCt.out _ T2).mono ?_
    rintro e wx ⟨rfl, hbx⟩
    have T2 := T2.on hbx
    have O2 := O2.on hbx
    clear hbx
    go_wp2_with fail
    refine hK.out _ _ (T2.2.2) (fun hHeld => ?_)
    clear hK K
    try simp only [Act.put, List.getElem_toArray, List.getElem_cons_succ, List.getElem_cons_zero, List.setIfInBounds_toArray, List.set_cons_zero, List.set_cons_succ]
    refine wpAnyH_take (i := 4) (v := ?_) rfl (by kernel_rfl) (by kernel_rfl) (by kernel_rfl) (fun _ _ _ h => h) (Or.inl ⟨by rfl, ?_⟩) (by assumption) ?_
    rotate_left
    · (intro w' hS; (try dsimp only at hS); go_simp; try with_reducible rfl)
    try simp only [Act.put, List.getElem_toArray, List.getElem_cons_succ, List.getElem_cons_zero, List.setIfInBounds_toArray, List.set_cons_zero, List.set_cons_succ]
    refine wpAnyH_take (i := 5) (v := ?_) rfl (by kernel_rfl) (by kernel_rfl) (by kernel_rfl) (fun _ _ _ h => h) (Or.inl ⟨by rfl, ?_⟩) (by assumption) ?_
    rotate_left
    · (intro w' hS; (try dsimp only at hS); go_simp; try with_reducible rfl)
    try simp only [Act.put, List.getElem_toArray, List.getElem_cons_succ, List.getElem_cons_zero, List.setIfInBounds_toArray, List.set_cons_zero, List.set_cons_succ]
    have hl1 := HLk.out _ _ _ O2 C2
    simp only [HW.out]
    refine wpAnyH_ready (rs := [6]) (by kernel_rfl) (by simp) ?_
    refine AllReadyH.cons rfl (fun K hK => ?_) AllReadyH.nil
    go_simp
    refine hK.out _ _ (T2.2.2) (fun hHeld => ?_)
    clear hK K
    try simp only [Act.put, List.getElem_toArray, List.getElem_cons_succ, List.getElem_cons_zero, List.setIfInBounds_toArray, List.set_cons_zero, List.set_cons_succ]
    refine wpAnyH_take (i := 7) (v := ?_) rfl (by kernel_rfl) (by kernel_rfl) (by kernel_rfl) (fun _ _ _ h => h) (Or.inl ⟨by rfl, ?_⟩) (by assumption) ?_
    rotate_left
    · (intro w' hS; (try dsimp only at hS); go_simp; try with_reducible rfl)
    try simp only [Act.put, List.getElem_toArray, List.getElem_cons_succ, List.getElem_cons_zero, List.setIfInBounds_toArray, List.set_cons_zero, List.set_cons_succ]
    refine wpAnyH_done (by kernel_rfl) ?_ _
    refine NoPanic.normal ?_
    have HT := HE.out
    clear hHeld hl1
    go_wp2
    go_ret
    exact mkNum HT T2.1
  · rw [okRB_not ho] at HOk
    have HE := Lib.hid (tilesR_not ho)
    clear hx hn h hB HCl HCt ho
    go_enter Tryd.func11, Tryd.ntmps11
    go_wp2_with fail
    refine (HOk.out _ (T0.out _)).mono ?_
    rintro e w1 ⟨rfl, hb1⟩
    have T1 := (T0.out 26).on hb1
    clear T0 HOk hb1
    go_wp2
    go_ret
    exact mkNum HE.out.symm T1.1
end Go.Proofs.YtmaghekcpopepaaDoor.Prof

/- Rectangle: the program's function and the model's give the same region, in new memory. -/
namespace Go.Proofs.YtmaghekcpopepaaDoor.Reg
set_option linter.unusedVariables false
open Go.RowKit Go.Proofs.YtmaghekcpopepaaDoor.Base Go.Proofs.YtmaghekcpopepaaDoor.Pure Go.Proofs.YtmaghekcpopepaaDoor.Cell Go.Joins

theorem filled_step (v : Int) (n k : Nat) (hk : k < n) : (ints (List.replicate k v) ++ List.replicate (n - k) (Value.int .i64 0)).set k (.int .i64 v) = ints (List.replicate (k + 1) v) ++ List.replicate (n - (k + 1)) (Value.int .i64 0) := by
  have hl : (ints (List.replicate k v)).length = k := by rw [ints_length, List.length_replicate]
  rw [List.set_append_right _ _ (by omega), hl, Nat.sub_self, show n - k = (n - (k + 1)) + 1 by omega, List.replicate_succ, List.set_cons_zero, List.replicate_succ' (n := k), ints_snoc, List.append_assoc]
  rfl
theorem row_value {k : Nat} (h1 : 1 ≤ k) (h8 : k ≤ 8) : wrap64 (wrap64 ((2 : Int) ^ k) - 1) = 2 ^ k - 1 := by
  have hcs : k = 1 ∨ k = 2 ∨ k = 3 ∨ k = 4 ∨ k = 5 ∨ k = 6 ∨ k = 7 ∨ k = 8 := by omega
  rcases hcs with rfl | rfl | rfl | rfl | rfl | rfl | rfl | rfl <;> (unfold wrap64; decide)

theorem row_value' {k : Nat} (h1 : 1 ≤ k) (h8 : k ≤ 8) : IntKind.i64.wrap (IntKind.i64.wrap ((2 : Int) ^ k) - 1) = 2 ^ k - 1 := by
  have hcs : k = 1 ∨ k = 2 ∨ k = 3 ∨ k = 4 ∨ k = 5 ∨ k = 6 ∨ k = 7 ∨ k = 8 := by omega
  rcases hcs with rfl | rfl | rfl | rfl | rfl | rfl | rfl | rfl <;> (rw [IntKind.wrap_i64, IntKind.wrap_i64]; decide)

theorem two_boxes (w : World) (o1 o2 : Obj) : ((w.alloc o1).alloc o2).heap[w.heap.size]? = some o1 ∧ ((w.alloc o1).alloc o2).heap[w.heap.size + 1]? = some o2 := by
  have h1 : (w.heap.push o1).size = w.heap.size + 1 := by simp
  constructor
  · show ((w.heap.push o1).push o2)[_]? = _
    rw [Array.getElem?_push_lt (by simp)]
    simp
  · show ((w.heap.push o1).push o2)[_]? = _
    rw [← h1]; exact Array.getElem?_push_size

/-- the result's box and the region's, in the model's Rectangle. -/
def SR (w : World) (v : Value) (W : World) : Prop :=
  Below w.heap.size w W ∧ w.heap.size + 2 ≤ W.heap.size ∧ W.heap[w.heap.size]? = some (.cells #[.slice none 0 0] 26) ∧ W.heap[w.heap.size + 1]? = some (.cells #[v] 26)
theorem SR.grown {w W W' : World} {v : Value} {row : Option Nat} (h : SR w v W) (hg : W.grownBy W' row) (hr : ∀ k, row = some k → w.heap.size + 2 ≤ k) : SR w v W' := by
  obtain ⟨a, b, c, d⟩ := h
  have hz := hg.size
  refine ⟨a.grown hg (by omega) (fun k hk => by have := hr k hk; omega), by omega, ?_, ?_⟩
  · rw [hg.block _ (by omega) (fun e => by have := hr _ e.symm; omega)]; exact c
  · rw [hg.block _ (by omega) (fun e => by have := hr _ e.symm; omega)]; exact d
theorem SR.alloc {w W : World} {v : Value} (h : SR w v W) (o : Obj) : SR w v (W.alloc o) := h.grown (World.grownBy_alloc W o none) (by simp)
theorem SR.drew {w W : World} {v : Value} (h : SR w v W) : SR w v W.drew := ⟨h.1.drew, h.2⟩
theorem SR.store {w W : World} {v : Value} (h : SR w v W) (u : Value) : SR w u (W.setCell ⟨w.heap.size + 1, 0, none⟩ u) := by
  obtain ⟨a, b, c, d⟩ := h
  refine ⟨a.setCell (by show w.heap.size ≤ w.heap.size + 1; omega) _, by simpa [World.setCell] using b, ?_, ?_⟩
  · exact (Below.heap_setCell W _ _ _ (by show w.heap.size ≠ w.heap.size + 1; omega)).trans c
  · have := block_setCell d u (i := 0)
    rw [this]; rfl

set_option maxRecDepth 100000 in
set_option maxHeartbeats 2000000 in
theorem sRectIn (w : World) (k n : Nat) (h1 : 1 ≤ k) (h8 : k ≤ 8) (n1 : 1 ≤ n) (n8 : n ≤ 8) :
    Calls Tryd.prog 56 #[.int .i64 (k : Int), .int .i64 (n : Int)] w (RegPost (List.replicate n (2 ^ k - 1)) n w) := by
  obtain ⟨i0, hi, hz0, hz1, hz2⟩ := info_parts intInfo
  have hv := row_value h1 h8
  have HX := Lib.hid (row_value' h1 h8)
  obtain ⟨v, hvv⟩ : ∃ v, v = (2 : Int) ^ k - 1 := ⟨_, rfl⟩
  rw [← hvv] at hv HX ⊢
  clear hvv
  have HS := Lib.hid (show SR w (.slice none 0 0) ((w.alloc (.cells #[.slice none 0 0] 26)).alloc (.cells #[.slice none 0 0] 26)) from ⟨below_alloc2 w _ _, by simp, (two_boxes w _ _).1, (two_boxes w _ _).2⟩)
  have HI := Lib.hid (fun W => l01In (k : Int) 1 8 W)
  have HJ := Lib.hid (fun W => l01In (n : Int) 1 8 W)
  rw [inB_of (by omega)] at HI HJ
  go_enter Tryd.func56, Tryd.ntmps56
  go_wp2_with fail
  go_loopw [6] (fun i wr => ∃ (j : Nat) (u : Value), j ≤ n ∧ i = .int .i64 j ∧ wr.ownsRow (w.heap.size + 2) 3 1 u j (ints (List.replicate j v)) ∧ SR w u wr) (fun i _ => n - (intOf i).toNat)
  case atStart => exact ⟨0, .slice none 0 0, Nat.zero_le _, rfl, World.ownsRow_nil _ _ _ _, HS.out⟩
  case round =>
    clear HS
    obtain ⟨j, u, hj, rfl, hown, hs⟩ := hrel
    have hsz := hs.2.1
    by_cases hlt : j < n
    · obtain ⟨c1, f1⟩ := cellAt hs.2.2.2 0
      have HSR := Lib.hid hs
      have HOwn := Lib.hid hown
      clear hown hs
      go_wp2_with fail
      refine (HI.out _).mono ?_
      rintro e w1 ⟨rfl, rfl⟩
      go_wp2_with fail
      refine (HJ.out _).mono ?_
      rintro e w2 ⟨rfl, rfl⟩
      have ca : ∀ o, (w2.alloc o).cell? ⟨w.heap.size + 1, 0, none⟩ = some u := fun o => (cellAt (HSR.out.alloc o).2.2.2 0).1.trans rfl
      have fa : ∀ o, (w2.alloc o).frozen? ⟨w.heap.size + 1, 0, none⟩ = false := fun o => (cellAt (HSR.out.alloc o).2.2.2 0).2
      go_wp2_with fail
      go_region_law (first | (refine step_append_lies _ (by rfl) _ _ _ (by rfl) (w.heap.size + 2) 3 i0 _ 1 8 Tryd.underlying24 hi hz0 hz1 hz2 rfl (by omega) u j (ints (List.replicate j v)) (by rfl) ((HOwn.out.alloc _).drew) ⟨w2.heap.size, 0, none⟩ 1 1 [.int .i64 (IntKind.i64.wrap (IntKind.i64.wrap (2 ^ k) - 1))] (by rfl) (by rfl) (World.news_of_block (cs := #[.int .i64 (IntKind.i64.wrap (IntKind.i64.wrap (2 ^ k) - 1))]) (t := 3) (fr := (0, 0)) (heap_alloc_new w2 _)) (by simp [Value.oneCell']) (by omega) (by unfold maxLen; omega) (by omega) (by simp; omega) (w2.heap.size + 1) (by simp) ?_; intro gg cap w3 hown3 hgrow hat hlt3; obtain ⟨d1, g1⟩ := cellAt (((HSR.out.alloc (.cells #[.int .i64 (IntKind.i64.wrap (IntKind.i64.wrap (2 ^ k) - 1))] 3)).drew.grown hgrow (fun q hq => (HOwn.out.lt q hq).1)).2.2.2) 0))
      all_goals
        have hX := HX.out
        rw [hX] at hown3 hgrow
        have hs4 := Lib.hid (((SR.drew (HSR.out.alloc _)).grown hgrow (fun q hq => (HOwn.out.lt q hq).1)).store (.slice (some ⟨gg, 0, none⟩) (j + 1) cap))
        have R := Lib.hid (show (w3.setCell ⟨w.heap.size + 1, 0, none⟩ (.slice (some ⟨gg, 0, none⟩) (j + 1) cap)).ownsRow (w.heap.size + 2) 3 1 (.slice (some ⟨gg, 0, none⟩) (j + 1) cap) (j + 1) (ints (List.replicate (j + 1) v)) by
          rw [List.replicate_succ' (n := j), ints_snoc]
          exact ownsRow_setCell_below hown3 (by show w.heap.size + 1 < w.heap.size + 2; omega) _)
        clear hown3 hgrow hat d1 g1 hX HOwn HSR ca fa c1 f1 hlt3
        go_wp2
        go_roundw
        case rel => exact ⟨j + 1, _, by omega, by go_num, R.out, hs4.out⟩
        case measure => (simp [intOf] <;> omega)
    · obtain rfl : j = n := by omega
      obtain ⟨A, cap, rfl⟩ := own_shape hown
      obtain ⟨c1, f1⟩ := cellAt hs.2.2.2 0
      obtain ⟨c2, f2⟩ := cellAt hs.2.2.1 0
      have HSR := Lib.hid hs
      have HOwn := Lib.hid hown
      clear hown hs
      go_wp2
      have hres := World.cell?_setCell_same (w := wr) ⟨w.heap.size, 0, none⟩ (.slice A j cap) (u := .slice none 0 0) c2
      refine bodyPost_ret (v := .agg #[.slice A j cap]) (by simp [results, Tryd.results56, go_sem, hres]) rfl ⟨A, cap, rfl, ?_, HSR.out.1.setCell (Nat.le_refl _) _⟩
      exact own_base (ownsRow_setCell_below HOwn.out (by show w.heap.size < w.heap.size + 2; omega) _) (by omega)

set_option maxRecDepth 100000 in
set_option maxHeartbeats 2000000 in
theorem sRectOut (w : World) (a b : Int) (h : ¬ (1 ≤ a ∧ a ≤ 8 ∧ 1 ≤ b ∧ b ≤ 8)) :
    Calls Tryd.prog 56 #[.int .i64 a, .int .i64 b] w (RegPost [] 0 w) := by
  have HS := Lib.hid (show SR w (.slice none 0 0) ((w.alloc (.cells #[.slice none 0 0] 26)).alloc (.cells #[.slice none 0 0] 26)) from ⟨below_alloc2 w _ _, by simp, (two_boxes w _ _).1, (two_boxes w _ _).2⟩)
  have HI := Lib.hid (fun W => l01In a 1 8 W)
  have HJ := Lib.hid (fun W => l01In b 1 8 W)
  have HR := Lib.hid (fun (W : World) (hW : Below w.heap.size w W) => (show RegPost [] 0 w (.returned (.agg #[.slice none 0 0])) W from ⟨none, 0, rfl, World.ownsRow_nil _ _ _ _, hW⟩))
  have hab : inB a 1 8 = false ∨ inB a 1 8 = true ∧ inB b 1 8 = false := by
    by_cases k : 1 ≤ a ∧ a ≤ 8
    · exact .inr ⟨inB_of k, inB_not fun q => h ⟨k.1, k.2, q.1, q.2⟩⟩
    · exact .inl (inB_not k)
  generalize inB a 1 8 = x at HI hab
  generalize inB b 1 8 = y at HJ hab
  clear h
  go_enter Tryd.func56, Tryd.ntmps56
  go_wp2_with fail
  go_loopw [6] (fun i wr => i = .int .i64 0 ∧ SR w (.slice none 0 0) wr) (fun i _ => (intOf i).toNat)
  case atStart => exact ⟨rfl, HS.out⟩
  case round =>
    clear HS
    obtain ⟨rfl, hs⟩ := hrel
    obtain ⟨c1, f1⟩ := cellAt hs.2.2.2 0
    obtain ⟨c2, f2⟩ := cellAt hs.2.2.1 0
    have HSR := Lib.hid hs
    have hres := World.cell?_setCell_same (w := wr) ⟨w.heap.size, 0, none⟩ (.slice none 0 0) (u := .slice none 0 0) c2
    clear hs
    by_cases hb : 0 < b
    · go_wp2_with fail
      refine (HI.out _).mono ?_
      rintro e w1 ⟨rfl, rfl⟩
      rcases hab with rfl | ⟨rfl, rfl⟩
      · go_wp2
        refine bodyPost_ret (v := .agg #[.slice none 0 0]) (by simp [results, Tryd.results56, go_sem, hres]) rfl (HR.out _ (HSR.out.1.setCell (Nat.le_refl _) _))
      · go_wp2_with fail
        refine (HJ.out _).mono ?_
        rintro e w2 ⟨rfl, rfl⟩
        go_wp2
        refine bodyPost_ret (v := .agg #[.slice none 0 0]) (by simp [results, Tryd.results56, go_sem, hres]) rfl (HR.out _ (HSR.out.1.setCell (Nat.le_refl _) _))
    · go_wp2
      refine bodyPost_ret (v := .agg #[.slice none 0 0]) (by simp [results, Tryd.results56, go_sem, hres]) rfl (HR.out _ (HSR.out.1.setCell (Nat.le_refl _) _))

theorem rect_nat {a b : Int} (h : 1 ≤ a ∧ a ≤ 8 ∧ 1 ≤ b ∧ b ≤ 8) : ∃ k n : Nat, a = (k : Int) ∧ b = (n : Int) ∧ 1 ≤ k ∧ k ≤ 8 ∧ 1 ≤ n ∧ n ≤ 8 ∧ rectR a b = List.replicate n (2 ^ k - 1) := by
  refine ⟨a.toNat, b.toNat, by omega, by omega, by omega, by omega, by omega, by omega, ?_⟩
  rw [rectR_in h]
theorem sRectangle (w : World) (a b : Int) :
    Calls Tryd.prog 56 #[.int .i64 a, .int .i64 b] w (RegPost (rectR a b) (rectR a b).length w) := by
  by_cases h : 1 ≤ a ∧ a ≤ 8 ∧ 1 ≤ b ∧ b ≤ 8
  · obtain ⟨k, n, rfl, rfl, h1, h2, h3, h4, he⟩ := rect_nat h
    rw [he, List.length_replicate]
    exact sRectIn w k n h1 h2 h3 h4
  · rw [rectR_out h]
    exact sRectOut w a b h
end Go.Proofs.YtmaghekcpopepaaDoor.Reg

/- The program's IsTileable, RectangleCount, CountPartials. -/
namespace Go.Proofs.YtmaghekcpopepaaDoor.Prof
set_option linter.unusedVariables false
set_option maxRecDepth 100000
set_option linter.unusedSimpArgs false
open Go.RowKit Go.Proofs.YtmaghekcpopepaaDoor.Base Go.Proofs.YtmaghekcpopepaaDoor.Pure Go.Proofs.YtmaghekcpopepaaDoor.Cell Go.Proofs.YtmaghekcpopepaaDoor.Cels Go.Proofs.YtmaghekcpopepaaDoor.Reg Go.Proofs.YtmaghekcpopepaaDoor.Cnt Go.Joins

/-- the tilings of a rectangle. -/
def rectT (a b : Int) : Int := if 1 ≤ a ∧ a ≤ 8 ∧ 1 ≤ b ∧ b ≤ 8 then tilesR (rectR a b) else 0
theorem rectT_in {a b : Int} (h : 1 ≤ a ∧ a ≤ 8 ∧ 1 ≤ b ∧ b ≤ 8) : rectT a b = tilesR (rectR a b) := if_pos h
theorem rectT_out {a b : Int} (h : ¬ (1 ≤ a ∧ a ≤ 8 ∧ 1 ≤ b ∧ b ≤ 8)) : rectT a b = 0 := if_neg h
theorem rect_ok' {a b : Int} (h : 1 ≤ a ∧ a ≤ 8 ∧ 1 ≤ b ∧ b ≤ 8) : okR (rectR a b) := by
  have := rect_ok (a := a.toNat) (b := b.toNat) (by omega) (by omega)
  rwa [Int.toNat_of_nonneg (by omega), Int.toNat_of_nonneg (by omega)] at this
theorem rect_len {a b : Int} : (rectR a b).length ≤ 8 := by
  unfold rectR
  split
  · rw [List.length_replicate]; omega
  · simp
theorem rect_count {a b : Int} : (countR (rectR a b) = 0) ↔ ¬ (1 ≤ a ∧ a ≤ 8 ∧ 1 ≤ b ∧ b ≤ 8) := by
  by_cases h : 1 ≤ a ∧ a ≤ 8 ∧ 1 ≤ b ∧ b ≤ 8
  · have hg : gR (rectR a b) 0 = true := by
      have := rect_gq (a := a.toNat) (b := b.toNat) (by omega) (by omega)
      rw [Int.toNat_of_nonneg (by omega), Int.toNat_of_nonneg (by omega)] at this
      rw [this]; unfold gq
      simp; omega
    obtain ⟨i, hi, _⟩ := (idxs_lists (rectR a b)).all 0 (by omega) hg
    unfold countR
    rw [(cells_idx (rect_ok' h)).1]
    constructor
    · intro h0; omega
    · intro h0; exact absurd h h0
  · have : rectR a b = [] := by unfold rectR; rw [if_neg h]
    rw [this]
    constructor
    · intro _; exact h
    · intro _; rfl

/-- the lists of n dominoes that CountPartials answers. -/
def partT (xs : List Int) (n : Int) : Int := if okR xs ∧ (idxs xs).length ≤ 16 ∧ 0 ≤ n then wrap64 (partsN xs n.toNat : Int) else 0
theorem partT_in {xs : List Int} {n : Nat} (ho : okR xs) (hl : (idxs xs).length ≤ 16) : partT xs (n : Int) = wrap64 (partsN xs n : Int) := by
  unfold partT; rw [if_pos ⟨ho, hl, by omega⟩, Int.toNat_natCast]
theorem partT_out {xs : List Int} {n : Int} (h : ¬ (okR xs ∧ (idxs xs).length ≤ 16 ∧ 0 ≤ n)) : partT xs n = 0 := if_neg h
theorem part_at (xs : List Int) (hl : (idxs xs).length ≤ 16) (e : Nat) : (if e < 65 then wrap64 (V (gR xs) true e 64 0 0 0 : Int) else 0) = wrap64 (partsN xs e : Int) := by
  by_cases h : e < 65
  · rw [if_pos h, V_parts (gR_out xs)]; rfl
  · rw [if_neg h, parts_many (by omega)]; unfold wrap64; omega

end Go.Proofs.YtmaghekcpopepaaDoor.Prof
