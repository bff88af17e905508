/- The program's count of lists: from cell to cell. -/
import Derived.Test.YtcncikgcieigaaaGoW
import Derived.Test.YtcncikgcieigaaaRegCn
import Derived.Test.YtcncikgcieigaaaRegL
namespace Go.Proofs.Ytcncikgcieigaaa.Prof
set_option linter.unusedVariables false
set_option linter.unusedSimpArgs false
open Go.RowKit Go.Proofs.Ytcncikgcieigaaa.Base Go.Proofs.Ytcncikgcieigaaa.Pure Go.Proofs.Ytcncikgcieigaaa.Cell Go.Proofs.Ytcncikgcieigaaa.Cels Go.Proofs.Ytcncikgcieigaaa.Reg Go.Proofs.Ytcncikgcieigaaa.Cnt Go.Joins
open Go.Maps (Keyed)

theorem plcN_end (xs : List Int) : plcN xs (idxs xs).length = 64 := by unfold plcN; simp [List.getD]
theorem idxs_len (xs : List Int) : (idxs xs).length ≤ 64 := by
  unfold idxs; exact Nat.le_trans (List.length_filter_le _ _) (by simp)
theorem plcN_le (xs : List Int) (j : Nat) : plcN xs j ≤ 64 := by
  by_cases h : j < (idxs xs).length
  · exact Nat.le_of_lt ((idxs_lists xs).mem j h).1
  · unfold plcN; rw [List.getD, List.getElem?_eq_none (by omega)]; exact Nat.le_refl _
/-- between two cells of the list no cell lies. -/
theorem plcN_gap {xs : List Int} {j i : Nat} (hj : j ≤ (idxs xs).length) (h0 : ∀ j', j' < j → plcN xs j' < i) (h : i < plcN xs j) : gR xs i = false := by
  cases hg : gR xs i with
  | false => rfl
  | true =>
    have h64 := plcN_le xs j
    obtain ⟨j0, hl, e⟩ := (idxs_lists xs).all i (by omega) hg
    by_cases q : j0 < j
    · have := h0 j0 q; omega
    · by_cases r : j = j0
      · rw [r] at h; omega
      · have := (idxs_lists xs).asc j j0 (by omega) hl; omega
theorem plcN_step {xs : List Int} {j : Nat} (hj : j < (idxs xs).length) : plcN xs j + 1 ≤ plcN xs (j + 1) := by
  by_cases h : j + 1 < (idxs xs).length
  · exact (idxs_lists xs).asc j (j + 1) (by omega) h
  · have := plcN_end xs
    rw [show j + 1 = (idxs xs).length by omega, this]
    exact ((idxs_lists xs).mem j hj).1
/-- before the j-th cell. -/
def CI (xs : List Int) (fr : Bool) (j : Nat) (Db : DataW Unit) : Prop := KD Db (gR xs) (plcN xs j) j ∧ ∀ N, D (sumV (gR xs) fr N (64 - plcN xs j) (plcN xs j) (vw Db)) (V (gR xs) fr N 64 0 0 0 : Int)
theorem CI.start (xs : List Int) (fr : Bool) : CI xs fr 0 ((DataW.map []).put (kI 0) (.lit (.int .i64 1))) := by
  refine ⟨KD.none.put Maps.isMap_empty (by omega) Vd_zero _, fun N => ?_⟩
  rw [sumV_congr (fun i hi => vw_put Maps.isMap_empty (t := 0) (by omega) 1 (i := i) (by omega))]
  rw [sumV_start (upd_at _ _ _) (fun i _ hne => by rw [upd_ne hne]; exact vw_none i)]
  have h := V_skip (g := gR xs) (fr := fr) (e := N) (s := 0) (d := 0) (plcN xs 0) (64 - plcN xs 0) 0 (fun i _ hi => plcN_gap (j := 0) (Nat.zero_le _) (fun j' hj' => by omega) (by omega))
  have h64 := plcN_le xs 0
  rw [show 64 - plcN xs 0 + plcN xs 0 = 64 by omega, Nat.zero_add] at h
  rw [h]; exact D.refl _
theorem CI.step {xs : List Int} {fr : Bool} {j : Nat} {Db Da : DataW Unit} (hj : j < (idxs xs).length) (h : CI xs fr j Db) (hg : GoR (gR xs) fr (plcN xs j) j Db Da) : CI xs fr (j + 1) Da := by
  have hk := ((idxs_lists xs).mem j hj).1
  have h1 := plcN_step hj
  have h64 := plcN_le xs (j + 1)
  have hgap : ∀ i, plcN xs j + 1 ≤ i → i < plcN xs j + 1 + (plcN xs (j + 1) - (plcN xs j + 1)) → gR xs i = false := fun i p1 p2 =>
    plcN_gap (j := j + 1) (by omega) (fun j' hj' => by
      by_cases q : j' = j
      · rw [q]; omega
      · have := (idxs_lists xs).asc j' j (by omega) hj; omega) (by omega)
  refine ⟨fun kl hk => ?_, fun N => ?_⟩
  · obtain ⟨i, hi, e, hv⟩ := hg.1 kl hk
    have := Vd_skip _ _ hv hgap
    rw [show plcN xs j + 1 + (plcN xs (j + 1) - (plcN xs j + 1)) = plcN xs (j + 1) by omega] at this
    exact ⟨i, hi, e, this⟩
  · have h2 := hg.2 N
    have h3 := h.2 N
    rw [show 63 - plcN xs j + 1 = 64 - plcN xs j by omega] at h2
    have h4 := sumV_skip (g := gR xs) (fr := fr) (e := N) (n := 64 - plcN xs (j + 1)) (a := vw Da) hgap
    rw [show 64 - plcN xs (j + 1) + (plcN xs (j + 1) - (plcN xs j + 1)) = 63 - plcN xs j by omega, show plcN xs j + 1 + (plcN xs (j + 1) - (plcN xs j + 1)) = plcN xs (j + 1) by omega] at h4
    rw [h4] at h2
    exact h2.symm.trans h3
/-- behind the last cell. -/
def CL (xs : List Int) (fr : Bool) (Db : DataW Unit) : Prop := KD Db (gR xs) 64 64 ∧ ∀ N, N < 65 → D (vw Db (256 * N)) (V (gR xs) fr N 64 0 0 0 : Int)
theorem CI.last {xs : List Int} {fr : Bool} {Db : DataW Unit} (h : CI xs fr (idxs xs).length Db) : CL xs fr Db := by
  obtain ⟨h1, h2⟩ := h
  rw [plcN_end] at h1 h2
  have hl := idxs_len xs
  refine ⟨fun kl hk => ?_, fun N hN => ?_⟩
  · obtain ⟨i, hi, e, hv⟩ := h1 kl hk
    exact ⟨i, by omega, e, hv⟩
  · have := h2 N
    rw [show 64 - 64 = 0 from rfl, sumV_last hN] at this
    exact this
/-- a map's entry is laid in a literal. -/
theorem wpList_insert {ops : Array Oper} {rest : List Oper} {o : Oper} {a : Act} {Q : Exit → Act → World → Prop} (w : World)
    (hg : o.guard = none) (m x v : Operand) (hop : o.op = Op.insert 53 m x v) (b n : Nat) (Db : DataW Unit)
    (hm : a.eval m = .map (some b)) (hown : w.ownsMap Try.prog 56 RE b n Db) (hn : n < maxLen) (key val : Value) (kl : Lit) (hx : a.eval x = key) (hv : a.eval v = val) (hkey : keyOf Try.prog 56 key = some kl)
    (d : DataW Unit) (ps : List MemPlace) (hval : RE val = some (d, ps))
    (hK : ∀ w', w'.ownsMap Try.prog 56 RE b (n + 1) (Db.put kl d) → w.grownBy w' (some b) → wpList Try.prog ops Q rest (a.put o.dst undef) w') :
    wpList Try.prog ops Q (o :: rest) a w := by
  refine wpList_plain hg fun K' hK' => ?_
  obtain ⟨w', hrun, r1, r2⟩ := hown.update law ut hn hkey hval
  unfold Oper.wp
  simp [execOp, hop, hm, hx, hv, hrun, Result.andThen]
  exact hK' _ _ (hK w' r1 r2)
theorem run_makeMap0 {w : World} : (Instr.makeMap 53 none).run Try.prog w = .ok (.map (some w.heap.size)) (w.alloc (.map #[] 0)) := rfl

/-- what the count holds: the parameter's box, the list of the cells. -/
def PK (w : World) (v : Value) (lo hi : Nat) (u : Value) (m : Nat) (L : List (Int × Int)) (W : World) : Prop := RB w v W ∧ RowIn W lo hi 35 2 u m (rowC L)
theorem PK.on {w W W' : World} {v u : Value} {lo hi m : Nat} {L : List (Int × Int)} (h : PK w v lo hi u m L W) (hb : Below W.heap.size W W') : PK w v lo hi u m L W' := ⟨h.1.on hb, h.2.on hb⟩
theorem own_at {w : World} {base e size n g c : Nat} {xs : List Value} (h : w.ownsRow base e size (.slice (some ⟨g, 0, none⟩) n c) n xs) {j : Nat} {u : Value} (hj : xs[j]? = some u) : w.cell? ⟨g, j, none⟩ = some u := by
  have := h.cells (g := g) rfl j u hj
  rwa [add_plain] at this
theorem cells_idx {xs : List Int} (ho : okR xs) : (cellsR xs).length = (idxs xs).length ∧ ∀ j, j < (idxs xs).length → (cellsR xs)[j]? = some (((plcN xs j % 8 : Nat) : Int), ((plcN xs j / 8 : Nat) : Int)) := by
  rw [cellsR_ok ho, idxs_cells]
  refine ⟨by simp, fun j hj => ?_⟩
  rw [List.getElem?_map, List.getElem?_eq_getElem hj, plcN_at hj]; rfl

set_option maxRecDepth 100000 in
set_option maxHeartbeats 4000000 in
theorem iCountLists (w : World) (A : Option Addr) (n cap B : Nat) (xs : List Int) (hx : xs.length = n) (hn : (n : Int) ≤ 9223372036854775807) (ho : okR xs) (h : RowB w B A xs) (hB : B ≤ w.heap.size) (fr : Bool) :
    Calls Try.prog 30 #[.agg #[.slice A n cap], .bool fr] w (fun e w' => ∃ m' Da, e = .returned (.map (some m')) ∧ Own w' m' Da ∧ CL xs fr Da ∧ Below w.heap.size w w') := by
  have hmm := @run_makeMap0
  have T0 := Lib.hid (fun (T : TypeId) => rb_start (T := T) (.slice A n cap) w)
  have HC := Lib.hid (fun W (hb : RB w (.slice A n cap) W) => iCellsOf W A n cap B xs hx hn (h.below hb.1 hB) (by have := hb.2.1; omega))
  have HGo := Lib.hid (fun W (hb : Below w.heap.size w W) k q x y hk hxk hyk hgk hq m Db hm hkd => iGoPast W A n cap B xs hx hn ho (h.below hb hB) (by have := hb.size; omega) k q x y hk hxk hyk hgk hq fr m Db hm hkd)
  have HI0 := Lib.hid (CI.start xs fr)
  have HSt := Lib.hid (fun j Db Da (hj : j < (idxs xs).length) (h : CI xs fr j Db) (hg : GoR (gR xs) fr (plcN xs j) j Db Da) => CI.step hj h hg)
  have HLa := Lib.hid (fun Db (h : CI xs fr (idxs xs).length Db) => CI.last h)
  have HM := Lib.hid (fun j (hj : j < (idxs xs).length) => (idxs_lists xs).mem j hj)
  have HL := Lib.hid (cells_idx ho)
  have hlen := idxs_len xs
  clear hx hn ho h hB
  go_enter Try.func30, Try.ntmps30
  go_wp2_with (first
    | (refine wpList_insert _ rfl _ _ _ rfl (w.heap.size + 1) 0 (.map []) rfl (by have := World.ownsMap_made (w.alloc (.cells #[.slice A n cap] 26)) Try.prog 56 RE; rwa [show (w.alloc (.cells #[.slice A n cap] 26)).heap.size = w.heap.size + 1 by simp] at this) (by unfold maxLen; omega) _ _ (k2 0 0) rfl rfl (key2 (by decide) (by decide)) _ [] (plainElem_int (H := Unit) ui (a := 1) (by decide)) ?_; intro w1 hown1 hg1; (have hb1 : Below (w.heap.size + 1) (w.alloc (.cells #[.slice A n cap] 26)) w1 := ((Below.refl _ _).alloc (by simp) _).grown hg1 (by simp) (fun j e => by cases e; exact Nat.le_refl _)); (have T1 := (T0.out 26).onB hb1 (Nat.le_refl _)); (have c0 := T1.2.2))
    | fail)
  have O1 := Lib.hid (show Own w1 (w.heap.size + 1) ((DataW.map []).put (kI 0) (.lit (.int .i64 1))) from World.ownsMap.mono hown1 (by omega))
  clear T0 hown1 hg1 hb1 hmm
  refine (HC.out _ T1).mono ?_
  rintro e w2 ⟨A1, c1, rfl, hown, hb2⟩
  have P2 := Lib.hid (show PK w (.slice A n cap) w1.heap.size w2.heap.size (.slice A1 (cellsR xs).length c1) (cellsR xs).length (cellsR xs) w2 from ⟨T1.on hb2, rowIn_new hown⟩)
  have O2 := Lib.hid (O1.out.on hb2)
  clear HC T1 c0 hown hb2 O1
  generalize w1.heap.size = lo at P2
  generalize w2.heap.size = hi at P2
  generalize w.heap.size + 1 = m0 at O2 ⊢
  rw [HL.out.1] at P2 ⊢
  generalize (DataW.map []).put (kI 0) (.lit (.int .i64 1)) = D0 at O2 HI0
  obtain ⟨M, hM⟩ : ∃ M, M = (idxs xs).length := ⟨_, rfl⟩
  rw [← hM] at P2 hlen HSt HLa HM HL ⊢
  clear hM
  have HLe := Lib.hid HL.out.2
  clear HL
  generalize cellsR xs = L at P2 HLe
  go_wp2_with fail
  go_loopw [5, 14] (fun cv iv wr => ∃ (j m : Nat) (Db : DataW Unit), j ≤ M ∧ iv = .int .i64 (j : Int) ∧ cv = .map (some m) ∧ PK w (.slice A n cap) lo hi (.slice A1 M c1) M L wr ∧ Own wr m Db ∧ CI xs fr j Db) (fun _ iv _ => M - (intOf iv).toNat)
  case atStart => exact ⟨0, m0, D0, Nat.zero_le _, rfl, rfl, P2.out, O2.out, HI0.out⟩
  case round =>
    clear P2 O2 HI0
    obtain ⟨j, m, Db, hj, rfl, rfl, P1, O1, I1⟩ := hrel
    by_cases hlt : j < M
    · obtain ⟨hk64, hgk⟩ := HM.out j hlt
      have hLj := HLe.out j hlt
      obtain ⟨nb, c', hv1, _, _⟩ := P1.2.1.form (by omega)
      injection hv1 with hA2 hm2 hc2
      subst hA2
      subst hc2
      obtain ⟨q1, q2⟩ := rowC_at L j _ hLj
      have c0 := own_at P1.2.1 q1
      have c1' := own_at P1.2.1 q2
      clear q1 q2 hLj
      obtain ⟨k, hk⟩ : ∃ k, k = plcN xs j := ⟨_, rfl⟩
      have HS := Lib.hid (fun Da (hg : GoR (gR xs) fr k j Db Da) => HSt.out j Db Da hlt I1 (by rw [← hk]; exact hg))
      have hkd : KD Db (gR xs) k j := by rw [hk]; exact I1.1
      rw [← hk] at hk64 hgk c0 c1'
      clear hk
      obtain ⟨x, hx⟩ : ∃ x, x = k % 8 := ⟨_, rfl⟩
      obtain ⟨y, hy⟩ : ∃ y, y = k / 8 := ⟨_, rfl⟩
      rw [← hx] at c0
      rw [← hy] at c1'
      have HG := Lib.hid (fun W (hb : Below w.heap.size w W) (hm : Own W m Db) => HGo.out W hb k j x y hk64 hx hy hgk (by omega) m Db hm hkd)
      have HP := Lib.hid P1
      have HO := Lib.hid O1
      have HI := Lib.hid I1
      clear hx hy hkd hgk hk64 P1 O1 I1
      go_upto_region 5 with fail
      have hba := below_alloc1 wr (.cells #[.int .i64 (x : Int), .int .i64 (y : Int)] 35)
      have P3 := HP.out.on hba
      have O3 := HO.out.on hba
      have r0 := P3.1.2.2
      have hp0 := (cellAt (heap_alloc_new wr (.cells #[.int .i64 (x : Int), .int .i64 (y : Int)] 35)) 0).1
      have hp1 := (cellAt (heap_alloc_new wr (.cells #[.int .i64 (x : Int), .int .i64 (y : Int)] 35)) 1).1
      generalize wr.alloc (.cells #[.int .i64 (x : Int), .int .i64 (y : Int)] 35) = W3 at P3 O3 r0 hp0 hp1 ⊢
      have p0 := hp0.trans (show _ = some (Value.int .i64 (x : Int)) from rfl)
      have p1 := hp1.trans (show _ = some (Value.int .i64 (y : Int)) from rfl)
      clear hba HP HO hp0 hp1
      go_wp2_with fail
      refine (HG.out _ P3.1.1 O3).mono ?_
      rintro e w5 ⟨m', Da, rfl, O5, G5, _, hb5⟩
      have P5 := P3.on hb5
      have I5 := HS.out Da G5
      clear P3 O3 r0 p0 p1 G5 hb5
      go_wp2
      go_roundw
      case rel => exact ⟨j + 1, m', Da, by omega, by go_num, rfl, P5, O5, I5⟩
      case measure => (simp [intOf] <;> omega)
    · obtain rfl : j = M := by omega
      have HP := Lib.hid P1
      have HO := Lib.hid O1
      have HI := Lib.hid (HLa.out Db I1)
      clear P1 O1 I1
      go_wp2
      go_ret
      exact ⟨m, Db, rfl, HO.out, HI.out, HP.out.1.1⟩
end Go.Proofs.Ytcncikgcieigaaa.Prof
