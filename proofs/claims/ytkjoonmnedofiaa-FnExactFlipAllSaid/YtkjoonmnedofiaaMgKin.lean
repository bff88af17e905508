/- FlmC, Kin in one text. -/
import Derived.Test.YtkjoonmnedofiaaFlmS
import Derived.Test.YtkjoonmnedofiaaRegCl
import Derived.Test.YtkjoonmnedofiaaMgPr
import Derived.Test.YtkjoonmnedofiaaCellF

/- Flips, the model's FlipsOf and CountDown. -/
namespace Go.Proofs.Ytkjoonmnedofiaa.Flp
set_option linter.unusedVariables false
set_option linter.unusedSimpArgs false
set_option maxRecDepth 100000
open Go.RowKit Go.Proofs.Ytkjoonmnedofiaa.Base Go.Proofs.Ytkjoonmnedofiaa.Pure Go.Proofs.Ytkjoonmnedofiaa.Cell Go.Proofs.Ytkjoonmnedofiaa.CellF Go.Proofs.Ytkjoonmnedofiaa.CellN Go.Proofs.Ytkjoonmnedofiaa.Cels Go.Proofs.Ytkjoonmnedofiaa.Dom Go.Proofs.Ytkjoonmnedofiaa.Dms Go.Proofs.Ytkjoonmnedofiaa.Til Go.Joins
open Go.Proofs.Ytkjoonmnedofiaa.Reg (at_nat own_below own_base)

/-- FlipsOf, over the first k cells. -/
def flipsTo (L : List Dm) (k : Nat) : List (Int × Int) := ((List.range k).filter fun k => canB L ((k % 8 : Nat) : Int) ((k / 8 : Nat) : Int)).map fun k => (((k % 8 : Nat) : Int), ((k / 8 : Nat) : Int))
theorem flipsTo_all (L : List Dm) : flipsTo L 64 = flipsR L := rfl
theorem flipsTo_length (L : List Dm) (k : Nat) : (flipsTo L k).length ≤ k := by
  unfold flipsTo; rw [List.length_map]; exact Nat.le_trans (List.length_filter_le _ _) (by rw [List.length_range]; exact Nat.le_refl _)
theorem flipsTo_yes {L : List Dm} {k : Nat} (h : canB L ((k % 8 : Nat) : Int) ((k / 8 : Nat) : Int) = true) : flipsTo L (k + 1) = flipsTo L k ++ [(((k % 8 : Nat) : Int), ((k / 8 : Nat) : Int))] := by
  unfold flipsTo; rw [List.range_succ, List.filter_append, List.map_append, List.filter_cons, if_pos h]; rfl
theorem flipsTo_no {L : List Dm} {k : Nat} (h : canB L ((k % 8 : Nat) : Int) ((k / 8 : Nat) : Int) = false) : flipsTo L (k + 1) = flipsTo L k := by
  unfold flipsTo; rw [List.range_succ, List.filter_append, List.map_append, List.filter_cons, if_neg (by rw [h]; simp), List.filter_nil, List.map_nil, List.append_nil]
/-- CountDown, over the first k dominoes. -/
def downTo (L : List Dm) (k : Nat) : Nat := downR (L.take k)
theorem downTo_le (L : List Dm) (k : Nat) : downTo L k ≤ k := by
  unfold downTo downR; exact Nat.le_trans (List.length_filter_le _ _) (by rw [List.length_take]; omega)
theorem downTo_yes {L : List Dm} {k : Nat} (hk : k < L.length) (h : (okM L[k] && L[k].2.2) = true) : downTo L (k + 1) = downTo L k + 1 := by
  unfold downTo downR; rw [List.take_succ_eq_append_getElem hk, List.filter_append, List.length_append]; simp [h]
theorem downTo_no {L : List Dm} {k : Nat} (hk : k < L.length) (h : (okM L[k] && L[k].2.2) = false) : downTo L (k + 1) = downTo L k := by
  unfold downTo downR; rw [List.take_succ_eq_append_getElem hk, List.filter_append, List.length_append]; simp [h]
set_option maxHeartbeats 2000000 in
theorem sCountDown (w : World) (A : Option Addr) (n cap B : Nat) (L : List Dm) (hL : L.length = n) (hn : (n : Int) ≤ 1048576) (h : RowM w B A L) (hB : B ≤ w.heap.size) :
    Calls Try.prog 16 #[.slice A n cap] w (Num ((downR L : Nat) : Int) w) := by
  obtain ⟨b0, off, hA, hc⟩ := h.at
  have HA := Lib.hid hA
  have HC := Lib.hid hc
  have HL := Lib.hid hL
  have HB := Lib.hid hB
  clear hA hc hL h hB
  go_enter Try.func16, Try.ntmps16
  go_wp2_with fail
  go_loopw [3, 4] (fun c i wr => ∃ k m : Nat, k ≤ n ∧ i = .int .i64 k ∧ c = .int .i64 m ∧ m = downTo L k ∧ Below w.heap.size w wr) (fun _ i _ => n - (intOf i).toNat)
  case atStart => exact ⟨0, 0, Nat.zero_le _, rfl, rfl, rfl, Below.refl _ _⟩
  case round =>
    obtain ⟨k, m, hk, rfl, rfl, hm, hb⟩ := hrel
    by_cases hlt : k < n
    · have hkL : k < L.length := by rw [HL.out]; exact hlt
      obtain ⟨rfl, hbB⟩ := HA.out (by omega)
      obtain ⟨e0, e1, e2⟩ := HC.out k hkL
      have hbw : b0 < w.heap.size := by have := HB.out; omega
      have hm1 : m ≤ k := by rw [hm]; exact downTo_le L k
      have HY := Lib.hid (fun h => downTo_yes hkL h)
      have HN := Lib.hid (fun h => downTo_no hkL h)
      rw [← hm] at HY HN
      have c0 := (hb.cell (p := ⟨b0, off + k * 3, none⟩) hbw).trans e0
      have c1 := (hb.cell (p := ⟨b0, off + k * 3 + 1, none⟩) hbw).trans e1
      have c2 := (hb.cell (p := ⟨b0, off + k * 3 + 2, none⟩) hbw).trans e2
      generalize L[k] = d at c0 c1 c2 HY HN
      obtain ⟨x, y, b⟩ := d
      simp only [okM] at c0 c1 c2 HY HN
      have HD := Lib.hid (fun W => sDominoOk x y b W)
      generalize domB x y b = p at HD HY HN
      have HBw := Lib.hid hb
      have hwr : b0 < wr.heap.size := World.block_lt_of_cell? _ _ c0
      clear e0 e1 e2 hm hb
      go_wp2_with fail
      refine (HD.out _).mono ?_
      rintro e w1 ⟨rfl, hb1⟩
      have hB1 := HBw.out.trans (hb1.mono HBw.out.size)
      have c2 := (hb1.cell (p := ⟨b0, off + k * 3 + 2, none⟩) hwr).trans c2
      have HB1 := Lib.hid hB1
      clear hb1 HBw HD hB1 c0 c1
      cases p with
      | false =>
        have HE := Lib.hid (HN.out (by first | rfl | trivial))
        clear HY HN c2
        go_wp2
        go_roundw
        case rel => exact ⟨k + 1, m, by omega, by go_num, rfl, HE.out.symm, HB1.out⟩
        case measure => (simp [intOf] <;> omega)
      | true =>
        cases b with
        | false =>
          have HE := Lib.hid (HN.out (by first | rfl | trivial))
          clear HY HN
          go_wp2
          go_roundw
          case rel => exact ⟨k + 1, m, by omega, by go_num, rfl, HE.out.symm, HB1.out⟩
          case measure => (simp [intOf] <;> omega)
        | true =>
          have HE := Lib.hid (HY.out (by first | rfl | trivial))
          clear HY HN
          go_wp2
          go_roundw
          case rel => exact ⟨k + 1, m + 1, by omega, by go_num, by go_num, HE.out.symm, HB1.out⟩
          case measure => (simp [intOf] <;> omega)
    · obtain rfl : k = n := by omega
      have he : downTo L k = downR L := by unfold downTo; rw [List.take_of_length_le (by rw [HL.out]; exact Nat.le_refl _)]
      have HE := Lib.hid (hm.trans he)
      clear hm he
      go_wp2
      go_ret
      exact mkNum (by rw [HE.out]) hb
set_option maxHeartbeats 2000000 in
theorem sFlipsOf (w : World) (A : Option Addr) (n cap B : Nat) (L : List Dm) (hL : L.length = n) (hn : (n : Int) ≤ 9223372036854775807) (h : RowM w B A L) (hB : B ≤ w.heap.size) :
    Calls Try.prog 11 #[.slice A n cap] w (NbPost (flipsR L) w) := by
  obtain ⟨i0, hi, hz0, hz1, hz2⟩ := info_parts cellInfo
  have HM := Lib.hid (World.ownsRow_made (e := 35) (size := 2) w #[] 0 (Nat.le_refl _) (by unfold maxLen; omega) rfl)
  have HKd := Lib.hid (fun W (hb : Below w.heap.size w W) x y => sKind W A n cap B L hL hn (h.below hb hB) (by have := hb.size; omega) x y)
  clear hL h hB
  go_enter Try.func11, Try.ntmps11
  go_wp2_with fail
  have HW1 := Lib.hid (below_alloc1 w (.cells #[] 35))
  go_loopw [3, 4] (fun v i wr => ∃ k : Nat, k ≤ 64 ∧ i = .int .i64 k ∧ wr.ownsRow w.heap.size 35 2 v (flipsTo L k).length (rowC (flipsTo L k)) ∧ Below w.heap.size w wr) (fun _ i _ => 64 - (intOf i).toNat)
  case atStart => exact ⟨0, Nat.zero_le _, rfl, by simpa [flipsTo, rowC] using HM.out, HW1.out⟩
  case round =>
    clear HW1 HM
    obtain ⟨k, hk, rfl, hown, hb⟩ := hrel
    have hbs := hb.size
    by_cases hlt : k < 64
    · go_wp2_with fail
      refine (sCellAt k _).mono ?_
      rintro e w1 ⟨rfl, hb1⟩
      have hown1 := own_below hown hb1 (Nat.le_refl _)
      have hbb := hb.trans (hb1.mono hbs)
      have hb1s := hbb.size
      have HOwn := Lib.hid hown1
      have HBB := Lib.hid hbb
      obtain ⟨hax, hay⟩ := at_nat hlt
      rw [hax, hay]
      have HKx := Lib.hid (HKd.out _ (hbb.alloc hbb.size (.cells #[.int .i64 ((k % 8 : Nat) : Int), .int .i64 ((k / 8 : Nat) : Int)] 35)) ((k % 8 : Nat) : Int) ((k / 8 : Nat) : Int))
      have hn' : 0 < kindN L ((k % 8 : Nat) : Int) ((k / 8 : Nat) : Int) ∧ flipsTo L (k + 1) = flipsTo L k ++ [(((k % 8 : Nat) : Int), ((k / 8 : Nat) : Int))] ∨ kindN L ((k % 8 : Nat) : Int) ((k / 8 : Nat) : Int) = 0 ∧ flipsTo L (k + 1) = flipsTo L k := by
        rcases Nat.eq_zero_or_pos (kindN L ((k % 8 : Nat) : Int) ((k / 8 : Nat) : Int)) with h0 | h0
        · exact .inr ⟨h0, flipsTo_no (by unfold canB; rw [h0]; rfl)⟩
        · exact .inl ⟨h0, flipsTo_yes (decide_eq_true h0)⟩
      have HN' := Lib.hid hn'
      clear hown hb hb1 hown1 hbb hbs hax hay hn'
      generalize kindN L ((k % 8 : Nat) : Int) ((k / 8 : Nat) : Int) = kk at HKx HN'
      generalize ((k % 8 : Nat) : Int) = u at HKx HN' ⊢
      generalize ((k / 8 : Nat) : Int) = v' at HKx HN' ⊢
      go_wp2_with fail
      refine HKx.out.mono ?_
      rintro e w2 ⟨rfl, hb2⟩
      clear HKx
      have hcc : w2.cell? ⟨w1.heap.size, 0, none⟩ = some (.int .i64 u) ∧ w2.cell? ⟨w1.heap.size, 1, none⟩ = some (.int .i64 v') := by
        have hbl := heap_alloc_new w1 (.cells #[.int .i64 u, .int .i64 v'] 35)
        exact ⟨(hb2.cell (by simp)).trans ((cell_of_row _ _ 0 _ _ _ hbl).trans rfl), (hb2.cell (by simp)).trans ((cell_of_row _ _ 1 _ _ _ hbl).trans rfl)⟩
      obtain ⟨hc2, hc3⟩ := hcc
      have hD : Below w.heap.size w w2 := (HBB.out.alloc hb1s _).trans (hb2.mono (by simp; omega))
      have hE : Below w1.heap.size w1 w2 := (below_alloc1 w1 _).trans (hb2.mono (by simp))
      have HOwn2 := Lib.hid (own_below HOwn.out hE (Nat.le_refl _))
      have hzz : w1.heap.size < w2.heap.size := by have := hb2.size; simp at this; omega
      have HD := Lib.hid hD
      clear hD hE hb2
      rcases HN'.out with ⟨hkk, hN⟩ | ⟨rfl, hN⟩
      · have HN := Lib.hid hN
        clear hN HN'
        have HL := Lib.hid (flipsTo_length L k)
        go_wp2_with (first
          | (at_builtin; refine wpList_append_own _ rfl _ _ 30 rfl w.heap.size 35 i0 (.agg #[.int .i64 0, .int .i64 0]) 2 16 Try.underlying30 hi hz0 hz1 hz2 rfl (by decide) _ (flipsTo L k).length (rowC (flipsTo L k)) rfl (HOwn2.out.alloc _) ⟨w2.heap.size, 0, none⟩ 1 1 [.int .i64 u, .int .i64 v'] rfl rfl (World.news_of_block (cs := #[.int .i64 u, .int .i64 v']) (t := 35) (fr := (0, 0)) (heap_alloc_new w2 _)) (by simp [Value.oneCell']) (by have := HL.out; unfold maxLen; omega) (by have := HL.out; omega) (by simp; omega) ?_; intro v2 w3 hown3 hgrow _))
        have hb3 : Below w.heap.size w w3 := (HD.out.alloc (by omega) _).grown hgrow (by simp; omega) (fun g hg => (HOwn2.out.lt g hg).1)
        have R := Lib.hid (show w3.ownsRow w.heap.size 35 2 v2 (flipsTo L (k + 1)).length (rowC (flipsTo L (k + 1))) by
          rw [HN.out, rowC_snoc, List.length_append]; exact hown3)
        clear hown3 hgrow
        go_wp2
        go_roundw
        case rel => exact ⟨k + 1, by omega, by go_num, R.out, hb3⟩
        case measure => (simp [intOf] <;> omega)
      · have HN := Lib.hid hN
        clear hN HN'
        go_wp2
        go_roundw
        case rel => exact ⟨k + 1, by omega, by go_num, by rw [HN.out]; exact HOwn2.out, HD.out⟩
        case measure => (simp [intOf] <;> omega)
    · obtain rfl : k = 64 := by omega
      obtain ⟨A, cap, rfl⟩ := own_shape hown
      rw [flipsTo_all] at hown ⊢
      have HOwn := Lib.hid hown
      clear hown
      go_wp2
      go_ret
      exact ⟨A, cap, rfl, HOwn.out, hb⟩
end Go.Proofs.Ytkjoonmnedofiaa.Flp

/- Which pair lies at a cell, the program's: kindsAt, CanFlip, FlipsOf, CountDown. -/
namespace Go.Proofs.Ytkjoonmnedofiaa.Flp
set_option linter.unusedVariables false
set_option linter.unusedSimpArgs false
set_option maxRecDepth 100000
open Go.RowKit Go.Proofs.Ytkjoonmnedofiaa.Base Go.Proofs.Ytkjoonmnedofiaa.Pure Go.Proofs.Ytkjoonmnedofiaa.Cell Go.Proofs.Ytkjoonmnedofiaa.CellF Go.Proofs.Ytkjoonmnedofiaa.Cels Go.Proofs.Ytkjoonmnedofiaa.Dom Go.Proofs.Ytkjoonmnedofiaa.Dms Go.Proofs.Ytkjoonmnedofiaa.Til Go.Joins
open Go.Proofs.Ytkjoonmnedofiaa.Reg (at_nat own_below own_base)

theorem kind_li (L : List Dm) (x y : Int) : kindN L x y = if liB L x y false then 1 else if liB L x y true then 2 else 0 := by
  unfold kindN liB
  cases in6 x y <;> simp
/-- the three answers. -/
def kdV (k : Nat) : Value := if k = 1 then .tuple #[fnV false, fnV true, .bool true] else if k = 2 then .tuple #[fnV true, fnV false, .bool true] else .tuple #[.nilFunc, .nilFunc, .bool false]
def KdP (k : Nat) (w : World) (e : Ending) (w' : World) : Prop := e = .returned (kdV k) ∧ Below w.heap.size w w'
set_option maxHeartbeats 1000000 in
theorem iKinds (w : World) (A : Option Addr) (n cap B : Nat) (L : List Dm) (hL : L.length = n) (hn : (n : Int) ≤ 9223372036854775807) (h : RowM w B A L) (hB : B ≤ w.heap.size) (x y : Int) :
    Calls Try.prog 40 #[.slice A n cap, .agg #[.int .i64 x, .int .i64 y]] w (KdP (kindN L x y) w) := by
  have HLi := Lib.hid (fun W (hb : Below w.heap.size w W) b => iLies W A n cap B L hL hn (h.below hb hB) (by have := hb.size; omega) x y b)
  have HK := Lib.hid (kind_li L x y)
  have T0 := Lib.hid (cb_start x y w)
  have H1 := Lib.hid (fun W hb => HLi.out W hb false)
  have H2 := Lib.hid (fun W hb => HLi.out W hb true)
  clear HLi hL hn h hB
  generalize kindN L x y = k at HK ⊢
  generalize liB L x y false = p at H1 HK
  generalize liB L x y true = q at H2 HK
  unfold fnV fnN at H1 H2
  go_enter Try.func40, Try.ntmps40
  go_wp2_with fail
  have c0 := T0.out.2.c0
  have c1 := T0.out.2.c1
  refine (H1.out _ T0.out.1).mono ?_
  rintro e w1 ⟨rfl, hb1⟩
  have T1 := Lib.hid (T0.out.on hb1)
  clear T0 hb1 c0 c1 H1
  cases p with
  | true =>
    have HE := Lib.hid (show k = 1 by rw [HK.out]; rfl)
    go_wp2
    exact bodyPost_ret (v := .tuple #[fnV false, fnV true, .bool true]) (by simp [results, Try.results40, go_sem, fnV, fnN]) rfl ⟨by rw [HE.out]; rfl, T1.out.1⟩
  | false =>
    have c0 := T1.out.2.c0
    have c1 := T1.out.2.c1
    go_wp2_with fail
    refine (H2.out _ T1.out.1).mono ?_
    rintro e w2 ⟨rfl, hb2⟩
    have T2 := Lib.hid (T1.out.on hb2)
    clear T1 hb2 c0 c1 H2
    cases q with
    | true =>
      have HE := Lib.hid (show k = 2 by rw [HK.out]; rfl)
      go_wp2
      exact bodyPost_ret (v := .tuple #[fnV true, fnV false, .bool true]) (by simp [results, Try.results40, go_sem, fnV, fnN]) rfl ⟨by rw [HE.out]; rfl, T2.out.1⟩
    | false =>
      have HE := Lib.hid (show k = 0 by rw [HK.out]; rfl)
      go_wp2
      exact bodyPost_ret (v := .tuple #[.nilFunc, .nilFunc, .bool false]) (by simp [results, Try.results40, go_sem]) rfl ⟨by rw [HE.out]; rfl, T2.out.1⟩
theorem kd_shape {k : Nat} (h : k ≤ 2) : ∃ f g : Value, kdV k = .tuple #[f, g, .bool (decide (0 < k))] := by
  obtain rfl | rfl | rfl : k = 0 ∨ k = 1 ∨ k = 2 := by omega
  · exact ⟨_, _, rfl⟩
  · exact ⟨_, _, rfl⟩
  · exact ⟨_, _, rfl⟩
set_option maxHeartbeats 1000000 in
theorem iCanFlip (w : World) (A : Option Addr) (n cap B : Nat) (L : List Dm) (hL : L.length = n) (hn : (n : Int) ≤ 9223372036854775807) (h : RowM w B A L) (hB : B ≤ w.heap.size) (x y : Int) :
    Calls Try.prog 13 #[.slice A n cap, .agg #[.int .i64 x, .int .i64 y]] w (Bol (canB L x y) w) := by
  have HK := Lib.hid (fun W (hb : Below w.heap.size w W) => iKinds W A n cap B L hL hn (h.below hb hB) (by have := hb.size; omega) x y)
  have T0 := Lib.hid (cb_start x y w)
  have HC := Lib.hid (show canB L x y = decide (0 < kindN L x y) from rfl)
  have hk := kind_le L x y
  generalize canB L x y = c at HC ⊢
  generalize kindN L x y = k at HK HC hk
  obtain ⟨f, g, e⟩ := kd_shape hk
  unfold KdP at HK
  rw [e, ← HC.out] at HK
  clear hL hn h hB hk e HC
  go_enter Try.func13, Try.ntmps13
  go_wp2_with fail
  have c0 := T0.out.2.c0
  have c1 := T0.out.2.c1
  refine (HK.out _ T0.out.1).mono ?_
  rintro e w1 ⟨rfl, hb1⟩
  have T1 := Lib.hid (T0.out.on hb1)
  clear T0 hb1 c0 c1 HK
  go_wp2
  go_ret
  exact mkBol rfl T1.out.1

set_option maxHeartbeats 2000000 in
theorem iFlipsOf (w : World) (A : Option Addr) (n cap B : Nat) (L : List Dm) (hL : L.length = n) (hn : (n : Int) ≤ 9223372036854775807) (h : RowM w B A L) (hB : B ≤ w.heap.size) :
    Calls Try.prog 12 #[.slice A n cap] w (NbPost (flipsR L) w) := by
  obtain ⟨i0, hi, hz0, hz1, hz2⟩ := info_parts cellInfo
  have HM := Lib.hid (World.ownsRow_nil w w.heap.size 35 2)
  have HKd := Lib.hid (fun W (hb : Below w.heap.size w W) x y => iCanFlip W A n cap B L hL hn (h.below hb hB) (by have := hb.size; omega) x y)
  clear hL h hB
  go_enter Try.func12, Try.ntmps12
  go_wp2_with fail
  go_loopw [3, 7] (fun v i wr => ∃ k : Nat, k ≤ 64 ∧ i = .int .i64 k ∧ wr.ownsRow w.heap.size 35 2 v (flipsTo L k).length (rowC (flipsTo L k)) ∧ Below w.heap.size w wr) (fun _ i _ => 64 - (intOf i).toNat)
  case atStart => exact ⟨0, Nat.zero_le _, rfl, by simpa [flipsTo, rowC] using HM.out, Below.refl _ _⟩
  case round =>
    clear HM
    obtain ⟨k, hk, rfl, hown, hb⟩ := hrel
    have hbs := hb.size
    by_cases hlt : k < 64
    · go_wp2_with fail
      refine (iCellAt k _).mono ?_
      rintro e w1 ⟨rfl, hb1⟩
      have hown1 := own_below hown hb1 (Nat.le_refl _)
      have hbb := hb.trans (hb1.mono hbs)
      have hb1s := hbb.size
      have HOwn := Lib.hid hown1
      have HBB := Lib.hid hbb
      obtain ⟨hax, hay⟩ := at_nat hlt
      rw [hax, hay]
      have HKx := Lib.hid (HKd.out _ (hbb.alloc hbb.size (.cells #[.int .i64 ((k % 8 : Nat) : Int), .int .i64 ((k / 8 : Nat) : Int)] 35)) ((k % 8 : Nat) : Int) ((k / 8 : Nat) : Int))
      have hn' : canB L ((k % 8 : Nat) : Int) ((k / 8 : Nat) : Int) = true ∧ flipsTo L (k + 1) = flipsTo L k ++ [(((k % 8 : Nat) : Int), ((k / 8 : Nat) : Int))] ∨ canB L ((k % 8 : Nat) : Int) ((k / 8 : Nat) : Int) = false ∧ flipsTo L (k + 1) = flipsTo L k := by
        cases h0 : canB L ((k % 8 : Nat) : Int) ((k / 8 : Nat) : Int) with
        | false => exact .inr ⟨rfl, flipsTo_no h0⟩
        | true => exact .inl ⟨rfl, flipsTo_yes h0⟩
      have HN' := Lib.hid hn'
      clear hown hb hb1 hown1 hbb hbs hax hay hn'
      generalize canB L ((k % 8 : Nat) : Int) ((k / 8 : Nat) : Int) = kk at HKx HN'
      generalize ((k % 8 : Nat) : Int) = u at HKx HN' ⊢
      generalize ((k / 8 : Nat) : Int) = v' at HKx HN' ⊢
      go_wp2_with fail
      refine HKx.out.mono ?_
      rintro e w2 ⟨rfl, hb2⟩
      clear HKx
      have hcc : w2.cell? ⟨w1.heap.size, 0, none⟩ = some (.int .i64 u) ∧ w2.cell? ⟨w1.heap.size, 1, none⟩ = some (.int .i64 v') := by
        have hbl := heap_alloc_new w1 (.cells #[.int .i64 u, .int .i64 v'] 35)
        exact ⟨(hb2.cell (by simp)).trans ((cell_of_row _ _ 0 _ _ _ hbl).trans rfl), (hb2.cell (by simp)).trans ((cell_of_row _ _ 1 _ _ _ hbl).trans rfl)⟩
      obtain ⟨hc2, hc3⟩ := hcc
      have hD : Below w.heap.size w w2 := (HBB.out.alloc hb1s _).trans (hb2.mono (by simp; omega))
      have hE : Below w1.heap.size w1 w2 := (below_alloc1 w1 _).trans (hb2.mono (by simp))
      have HOwn2 := Lib.hid (own_below HOwn.out hE (Nat.le_refl _))
      have hzz : w1.heap.size < w2.heap.size := by have := hb2.size; simp at this; omega
      have HD := Lib.hid hD
      clear hD hE hb2
      rcases HN'.out with ⟨rfl, hN⟩ | ⟨rfl, hN⟩
      · have HN := Lib.hid hN
        clear hN HN'
        have HL := Lib.hid (flipsTo_length L k)
        go_wp2_with (first
          | (at_builtin; refine wpList_append_own _ rfl _ _ 30 rfl w.heap.size 35 i0 (.agg #[.int .i64 0, .int .i64 0]) 2 16 Try.underlying30 hi hz0 hz1 hz2 rfl (by decide) _ (flipsTo L k).length (rowC (flipsTo L k)) rfl (HOwn2.out.alloc _) ⟨w2.heap.size, 0, none⟩ 1 1 [.int .i64 u, .int .i64 v'] rfl rfl (World.news_of_block (cs := #[.int .i64 u, .int .i64 v']) (t := 35) (fr := (0, 0)) (heap_alloc_new w2 _)) (by simp [Value.oneCell']) (by have := HL.out; unfold maxLen; omega) (by have := HL.out; omega) (by simp; omega) ?_; intro v2 w3 hown3 hgrow _))
        have hb3 : Below w.heap.size w w3 := (HD.out.alloc (by omega) _).grown hgrow (by simp; omega) (fun g hg => (HOwn2.out.lt g hg).1)
        have R := Lib.hid (show w3.ownsRow w.heap.size 35 2 v2 (flipsTo L (k + 1)).length (rowC (flipsTo L (k + 1))) by
          rw [HN.out, rowC_snoc, List.length_append]; exact hown3)
        clear hown3 hgrow
        go_wp2
        go_roundw
        case rel => exact ⟨k + 1, by omega, by go_num, R.out, hb3⟩
        case measure => (simp [intOf] <;> omega)
      · have HN := Lib.hid hN
        clear hN HN'
        go_wp2
        go_roundw
        case rel => exact ⟨k + 1, by omega, by go_num, by rw [HN.out]; exact HOwn2.out, HD.out⟩
        case measure => (simp [intOf] <;> omega)
    · obtain rfl : k = 64 := by omega
      obtain ⟨A, cap, rfl⟩ := own_shape hown
      rw [flipsTo_all] at hown ⊢
      have HOwn := Lib.hid hown
      clear hown
      go_wp2
      go_ret
      exact ⟨A, cap, rfl, HOwn.out, hb⟩
set_option maxHeartbeats 2000000 in
theorem iCountDown (w : World) (A : Option Addr) (n cap B : Nat) (L : List Dm) (hL : L.length = n) (hn : (n : Int) ≤ 1048576) (h : RowM w B A L) (hB : B ≤ w.heap.size) :
    Calls Try.prog 15 #[.slice A n cap] w (Num ((downR L : Nat) : Int) w) := by
  obtain ⟨b0, off, hA, hc⟩ := h.at
  have HA := Lib.hid hA
  have HC := Lib.hid hc
  have HL := Lib.hid hL
  have HB := Lib.hid hB
  clear hA hc hL h hB
  go_enter Try.func15, Try.ntmps15
  go_wp2_with fail
  go_loopw [3, 8] (fun c i wr => ∃ k m : Nat, k ≤ n ∧ i = .int .i64 k ∧ c = .int .i64 m ∧ m = downTo L k ∧ Below w.heap.size w wr) (fun _ i _ => n - (intOf i).toNat)
  case atStart => exact ⟨0, 0, Nat.zero_le _, rfl, rfl, rfl, Below.refl _ _⟩
  case round =>
    obtain ⟨k, m, hk, rfl, rfl, hm, hb⟩ := hrel
    by_cases hlt : k < n
    · have hkL : k < L.length := by rw [HL.out]; exact hlt
      obtain ⟨rfl, hbB⟩ := HA.out (by omega)
      obtain ⟨e0, e1, e2⟩ := HC.out k hkL
      have hbw : b0 < w.heap.size := by have := HB.out; omega
      have hm1 : m ≤ k := by rw [hm]; exact downTo_le L k
      have HY := Lib.hid (fun h => downTo_yes hkL h)
      have HN := Lib.hid (fun h => downTo_no hkL h)
      rw [← hm] at HY HN
      have c0 := (hb.cell (p := ⟨b0, off + k * 3, none⟩) hbw).trans e0
      have c1 := (hb.cell (p := ⟨b0, off + k * 3 + 1, none⟩) hbw).trans e1
      have c2 := (hb.cell (p := ⟨b0, off + k * 3 + 2, none⟩) hbw).trans e2
      generalize L[k] = d at c0 c1 c2 HY HN
      obtain ⟨x, y, b⟩ := d
      simp only [okM] at c0 c1 c2 HY HN
      have HD := Lib.hid (fun W => iDominoOkW x y b W)
      generalize domB x y b = p at HD HY HN
      have HBw := Lib.hid (hb.alloc hb.size (.cells #[.int .i64 x, .int .i64 y, .bool b] 38))
      have KB := Lib.hid (At3.new 38 wr x y b)
      have HB0 := Lib.hid hb
      clear e0 e1 e2 hm hb
      cases b with
      | false =>
        have HE := Lib.hid (HN.out (by cases p <;> rfl))
        clear HY HN HD
        go_wp2
        go_roundw
        case rel => exact ⟨k + 1, m, by omega, by go_num, rfl, HE.out.symm, HBw.out⟩
        case measure => (simp [intOf] <;> omega)
      | true =>
        go_wp2_with fail
        refine (HD.out _).mono ?_
        rintro e w1 ⟨rfl, hb1⟩
        have HB1 := Lib.hid (HBw.out.trans (hb1.mono HBw.out.size))
        clear hb1 HBw HD c0 c1 c2 HB0
        cases p with
        | false =>
          have HE := Lib.hid (HN.out rfl)
          clear HY HN
          go_wp2
          go_roundw
          case rel => exact ⟨k + 1, m, by omega, by go_num, rfl, HE.out.symm, HB1.out⟩
          case measure => (simp [intOf] <;> omega)
        | true =>
          have HE := Lib.hid (HY.out rfl)
          clear HY HN
          go_wp2
          go_roundw
          case rel => exact ⟨k + 1, m + 1, by omega, by go_num, by go_num, HE.out.symm, HB1.out⟩
          case measure => (simp [intOf] <;> omega)
    · obtain rfl : k = n := by omega
      have he : downTo L k = downR L := by unfold downTo; rw [List.take_of_length_le (by rw [HL.out]; exact Nat.le_refl _)]
      have HE := Lib.hid (hm.trans he)
      clear hm he
      go_wp2
      go_ret
      exact mkNum (by rw [HE.out]) hb
end Go.Proofs.Ytkjoonmnedofiaa.Flp
