/- Kin, Clo, Del in one text. -/
import Derived.Test.YtmenmepdmojnfaaGreatDoorMw25
import Derived.Test.YtmenmepdmojnfaaGreatDoorMw24
import Derived.Test.YtmenmepdmojnfaaGreatDoorMw01
import Derived.Test.YtmenmepdmojnfaaGreatDoorMw23
import Derived.Test.YtmenmepdmojnfaaGreatDoorMw21

namespace Go.Proofs.YtmenmepdmojnfaaGreatDoor.Flp
set_option linter.unusedVariables false
set_option linter.unusedSimpArgs false
set_option maxRecDepth 100000
open Go.RowKit Go.Proofs.YtmenmepdmojnfaaGreatDoor.Base Go.Proofs.YtmenmepdmojnfaaGreatDoor.Cell Go.Proofs.YtmenmepdmojnfaaGreatDoor.CellF Go.Proofs.YtmenmepdmojnfaaGreatDoor.Cels Go.Proofs.YtmenmepdmojnfaaGreatDoor.Dom Go.Proofs.YtmenmepdmojnfaaGreatDoor.Dms Go.Joins
open Go.Proofs.YtmenmepdmojnfaaGreatDoor.Reg (at_nat own_below own_base)

theorem kind_li (L : List Dm) (x y : Int) : kindN L x y = if liB L x y false then 1 else if liB L x y true then 2 else 0 := by
 unfold kindN liB
 cases in6 x y <;> simp
def kdV (k : Nat) : Value := if k = 1 then .tuple #[fnV false, fnV true, .bool true] else if k = 2 then .tuple #[fnV true, fnV false, .bool true] else .tuple #[.nilFunc, .nilFunc, .bool false]
def KdP (k : Nat) (w : World) (e : Ending) (w' : World) : Prop := e = .returned (kdV k) ∧ Below w.heap.size w w'
set_option maxHeartbeats 1000000 in
theorem iKinds (w : World) (A : Option Addr) (n cap B : Nat) (L : List Dm) (hL : L.length = n) (hn : (n : Int) ≤ 9223372036854775807) (h : RowM w B A L) (hB : B ≤ w.heap.size) (x y : Int) :
  Calls Tryz.prog 107 #[.slice A n cap, .agg #[.int .i64 x, .int .i64 y]] w (KdP (kindN L x y) w) := by
 have HLi := Lib.hid (fun W (hb : Below w.heap.size w W) b => iLies W A n cap B L hL hn (h.below hb hB) (by have := hb.size; omega) x y b)
 have HK := Lib.hid (kind_li L x y)
 have T0 := Lib.hid (cb_start x y w)
 have H1 := Lib.hid (fun W hb => HLi.out W hb false)
 have H2 := Lib.hid (fun W hb => HLi.out W hb true)
 clear HLi hL hn h hB
 generalize kindN L x y = k at HK ⊢
 generalize liB L x y false = p at H1 HK
 generalize liB L x y true = q at H2 HK
 unfold fnV fnN at H1 H2
 go_enter Tryz.func107, Tryz.ntmps107
 go_wp2_with fail
 have c0 := T0.out.2.c0
 have c1 := T0.out.2.c1
 refine (H1.out _ T0.out.1).mono ?_
 rintro e w1 ⟨rfl, hb1⟩
 have T1 := Lib.hid (T0.out.on hb1)
 clear T0 hb1 c0 c1 H1
 cases p with
 | true =>
  have HE := Lib.hid (show k = 1 by rw [HK.out]; rfl)
  go_wp2
  exact bodyPost_ret (v := .tuple #[fnV false, fnV true, .bool true]) (by simp [results, Tryz.results107, go_sem, fnV, fnN]) rfl ⟨by rw [HE.out]; rfl, T1.out.1⟩
 | false =>
  have c0 := T1.out.2.c0
  have c1 := T1.out.2.c1
  go_wp2_with fail
  refine (H2.out _ T1.out.1).mono ?_
  rintro e w2 ⟨rfl, hb2⟩
  have T2 := Lib.hid (T1.out.on hb2)
  clear T1 hb2 c0 c1 H2
  cases q with
  | true =>
   have HE := Lib.hid (show k = 2 by rw [HK.out]; rfl)
   go_wp2
   exact bodyPost_ret (v := .tuple #[fnV true, fnV false, .bool true]) (by simp [results, Tryz.results107, go_sem, fnV, fnN]) rfl ⟨by rw [HE.out]; rfl, T2.out.1⟩
  | false =>
   have HE := Lib.hid (show k = 0 by rw [HK.out]; rfl)
   go_wp2
   exact bodyPost_ret (v := .tuple #[.nilFunc, .nilFunc, .bool false]) (by simp [results, Tryz.results107, go_sem]) rfl ⟨by rw [HE.out]; rfl, T2.out.1⟩
theorem kd_shape {k : Nat} (h : k ≤ 2) : ∃ f g : Value, kdV k = .tuple #[f, g, .bool (decide (0 < k))] := by
 obtain rfl | rfl | rfl : k = 0 ∨ k = 1 ∨ k = 2 := by omega
 ·exact ⟨_, _, rfl⟩
 ·exact ⟨_, _, rfl⟩
 ·exact ⟨_, _, rfl⟩
set_option maxHeartbeats 1000000 in
theorem iCanFlip (w : World) (A : Option Addr) (n cap B : Nat) (L : List Dm) (hL : L.length = n) (hn : (n : Int) ≤ 9223372036854775807) (h : RowM w B A L) (hB : B ≤ w.heap.size) (x y : Int) :
  Calls Tryz.prog 106 #[.slice A n cap, .agg #[.int .i64 x, .int .i64 y]] w (Bol (canB L x y) w) := by
 have HK := Lib.hid (fun W (hb : Below w.heap.size w W) => iKinds W A n cap B L hL hn (h.below hb hB) (by have := hb.size; omega) x y)
 have T0 := Lib.hid (cb_start x y w)
 have HC := Lib.hid (show canB L x y = decide (0 < kindN L x y) from rfl)
 have hk := kind_le L x y
 generalize canB L x y = c at HC ⊢
 generalize kindN L x y = k at HK HC hk
 obtain ⟨f, g, e⟩ := kd_shape hk
 unfold KdP at HK
 rw [e, ← HC.out] at HK
 clear hL hn h hB hk e HC
 go_enter Tryz.func106, Tryz.ntmps106
 go_wp2_with fail
 have c0 := T0.out.2.c0
 have c1 := T0.out.2.c1
 refine (HK.out _ T0.out.1).mono ?_
 rintro e w1 ⟨rfl, hb1⟩
 have T1 := Lib.hid (T0.out.on hb1)
 clear T0 hb1 c0 c1 HK
 go_wp2
 go_ret
 exact mkBol rfl T1.out.1

set_option maxHeartbeats 2000000 in
theorem iFlipsOf (w : World) (A : Option Addr) (n cap B : Nat) (L : List Dm) (hL : L.length = n) (hn : (n : Int) ≤ 9223372036854775807) (h : RowM w B A L) (hB : B ≤ w.heap.size) :
  Calls Tryz.prog 80 #[.slice A n cap] w (NbPost (flipsR L) w) := by
 obtain ⟨i0, hi, hz0, hz1, hz2⟩ := info_parts cellInfo
 have HM := Lib.hid (World.ownsRow_nil w w.heap.size 67 2)
 have HKd := Lib.hid (fun W (hb : Below w.heap.size w W) x y => iCanFlip W A n cap B L hL hn (h.below hb hB) (by have := hb.size; omega) x y)
 clear hL h hB
 go_enter Tryz.func80, Tryz.ntmps80
 go_wp2_with fail
 go_loopw [3, 7] (fun v i wr => ∃ k : Nat, k ≤ 64 ∧ i = .int .i64 k ∧ wr.ownsRow w.heap.size 67 2 v (flipsTo L k).length (rowC (flipsTo L k)) ∧ Below w.heap.size w wr) (fun _ i _ => 64 - (intOf i).toNat)
 case atStart => exact ⟨0, Nat.zero_le _, rfl, by simpa [flipsTo, rowC] using HM.out, Below.refl _ _⟩
 case round =>
  clear HM
  obtain ⟨k, hk, rfl, hown, hb⟩ := hrel
  have hbs := hb.size
  by_cases hlt : k < 64
  ·go_wp2_with fail
   refine (iCellAt k _).mono ?_
   rintro e w1 ⟨rfl, hb1⟩
   have hown1 := own_below hown hb1 (Nat.le_refl _)
   have hbb := hb.trans (hb1.mono hbs)
   have hb1s := hbb.size
   have HOwn := Lib.hid hown1
   have HBB := Lib.hid hbb
   obtain ⟨hax, hay⟩ := at_nat hlt
   rw [hax, hay]
   have HKx := Lib.hid (HKd.out _ (hbb.alloc hbb.size (.cells #[.int .i64 ((k % 8 : Nat) : Int), .int .i64 ((k / 8 : Nat) : Int)] 67)) ((k % 8 : Nat) : Int) ((k / 8 : Nat) : Int))
   have hn' : canB L ((k % 8 : Nat) : Int) ((k / 8 : Nat) : Int) = true ∧ flipsTo L (k + 1) = flipsTo L k ++ [(((k % 8 : Nat) : Int), ((k / 8 : Nat) : Int))] ∨ canB L ((k % 8 : Nat) : Int) ((k / 8 : Nat) : Int) = false ∧ flipsTo L (k + 1) = flipsTo L k := by
    cases h0 : canB L ((k % 8 : Nat) : Int) ((k / 8 : Nat) : Int) with
    | false => exact .inr ⟨rfl, flipsTo_no h0⟩
    | true => exact .inl ⟨rfl, flipsTo_yes h0⟩
   have HN' := Lib.hid hn'
   clear hown hb hb1 hown1 hbb hbs hax hay hn'
   generalize canB L ((k % 8 : Nat) : Int) ((k / 8 : Nat) : Int) = kk at HKx HN'
   generalize ((k % 8 : Nat) : Int) = u at HKx HN' ⊢
   generalize ((k / 8 : Nat) : Int) = v' at HKx HN' ⊢
   go_wp2_with fail
   refine HKx.out.mono ?_
   rintro e w2 ⟨rfl, hb2⟩
   clear HKx
   have hcc : w2.cell? ⟨w1.heap.size, 0, none⟩ = some (.int .i64 u) ∧ w2.cell? ⟨w1.heap.size, 1, none⟩ = some (.int .i64 v') := by
    have hbl := heap_alloc_new w1 (.cells #[.int .i64 u, .int .i64 v'] 67)
    exact ⟨(hb2.cell (by simp)).trans ((cell_of_row _ _ 0 _ _ _ hbl).trans rfl), (hb2.cell (by simp)).trans ((cell_of_row _ _ 1 _ _ _ hbl).trans rfl)⟩
   obtain ⟨hc2, hc3⟩ := hcc
   have hD : Below w.heap.size w w2 := (HBB.out.alloc hb1s _).trans (hb2.mono (by simp; omega))
   have hE : Below w1.heap.size w1 w2 := (below_alloc1 w1 _).trans (hb2.mono (by simp))
   have HOwn2 := Lib.hid (own_below HOwn.out hE (Nat.le_refl _))
   have hzz : w1.heap.size < w2.heap.size := by have := hb2.size; simp at this; omega
   have HD := Lib.hid hD
   clear hD hE hb2
   rcases HN'.out with ⟨rfl, hN⟩ | ⟨rfl, hN⟩
   ·have HN := Lib.hid hN
    clear hN HN'
    have HL := Lib.hid (flipsTo_length L k)
    go_wp2_with (first
     | (at_builtin; refine wpList_append_own _ rfl _ _ 31 rfl w.heap.size 67 i0 (.agg #[.int .i64 0, .int .i64 0]) 2 16 Tryz.underlying31 hi hz0 hz1 hz2 rfl (by decide) _ (flipsTo L k).length (rowC (flipsTo L k)) rfl (HOwn2.out.alloc _) ⟨w2.heap.size, 0, none⟩ 1 1 [.int .i64 u, .int .i64 v'] rfl rfl (World.news_of_block (cs := #[.int .i64 u, .int .i64 v']) (t := 67) (fr := (0, 0)) (heap_alloc_new w2 _)) (by simp [Value.oneCell']) (by have := HL.out; unfold maxLen; omega) (by have := HL.out; omega) (by simp; omega) ?_; intro v2 w3 hown3 hgrow _))
    have hb3 : Below w.heap.size w w3 := (HD.out.alloc (by omega) _).grown hgrow (by simp; omega) (fun g hg => (HOwn2.out.lt g hg).1)
    have R := Lib.hid (show w3.ownsRow w.heap.size 67 2 v2 (flipsTo L (k + 1)).length (rowC (flipsTo L (k + 1))) by
     rw [HN.out, rowC_snoc, List.length_append]; exact hown3)
    clear hown3 hgrow
    go_wp2
    go_roundw
    case rel => exact ⟨k + 1, by omega, by go_num, R.out, hb3⟩
    case measure => (simp [intOf] <;> omega)
   ·have HN := Lib.hid hN
    clear hN HN'
    go_wp2
    go_roundw
    case rel => exact ⟨k + 1, by omega, by go_num, by rw [HN.out]; exact HOwn2.out, HD.out⟩
    case measure => (simp [intOf] <;> omega)
  ·obtain rfl : k = 64 := by omega
   obtain ⟨A, cap, rfl⟩ := own_shape hown
   rw [flipsTo_all] at hown ⊢
   have HOwn := Lib.hid hown
   clear hown
   go_wp2
   go_ret
   exact ⟨A, cap, rfl, HOwn.out, hb⟩
end Go.Proofs.YtmenmepdmojnfaaGreatDoor.Flp

namespace Go.Proofs.YtmenmepdmojnfaaGreatDoor.Flp
set_option linter.unusedVariables false
set_option linter.unusedSimpArgs false
set_option maxRecDepth 100000
open Go.RowKit Go.Proofs.YtmenmepdmojnfaaGreatDoor.Dms Go.Joins

def CloP (L : List Dm) (n : Nat) (w : World) (e : Ending) (w' : World) : Prop :=
 ∃ A cap, e = .returned (.slice A n cap) ∧ n ≤ cap ∧ w'.ownsRow w.heap.size 73 3 (.slice A n cap) n (rowM L) ∧ Below w.heap.size w w'
theorem cloNil (n c : Nat) (w : World) : (binOp .eql 27 (.slice none n c) (.slice none 0 0)).run Tryz.prog w = .ok (.bool true) w := by kernel_rfl
theorem cloSome (a : Addr) (n c : Nat) (w : World) : (binOp .eql 27 (.slice (some a) n c) (.slice none 0 0)).run Tryz.prog w = .ok (.bool false) w := by kernel_rfl
set_option maxHeartbeats 1000000 in
theorem iCloneM (w : World) (A : Option Addr) (n cap B : Nat) (L : List Dm) (hL : L.length = n) (hn : (n : Int) ≤ 1048576) (h : RowM w B A L) (hB : B ≤ w.heap.size) :
  Calls Tryz.prog 92 #[.slice A n cap] w (CloP L n w) := by
 cases A with
 | none =>
  obtain ⟨b, off, hA, _⟩ := h.at
  have h0 : n = 0 := by
   rcases Nat.eq_zero_or_pos n with h0 | h0
   ·exact h0
   ·have := (hA (by omega)).1; cases this
  subst h0
  have hL0 := List.eq_nil_of_length_eq_zero hL
  subst hL0
  have hq := cloNil 0 cap w
  have HP := Lib.hid (show CloP [] 0 w (.returned (.slice none 0 0)) w from ⟨none, 0, rfl, Nat.le_refl _, World.ownsRow_nil w w.heap.size 73 3, Below.refl _ _⟩)
  clear hL hn h hB hA
  go_enter Tryz.func92, Tryz.ntmps92
  go_wp2
  go_ret
  exact HP.out
 | some a =>
  have hq := cloSome a n cap w
  have HM := Lib.hid (World.ownsRow_made (base := w.heap.size) (e := 73) (size := 3) w #[] 0 (Nat.le_refl _) (by unfold maxLen; omega) rfl)
  have HB1 := Lib.hid (below_alloc1 w (.cells #[] 73))
  have HR := Lib.hid (h.below HB1.out hB)
  have HLn := Lib.hid hL
  clear hL h hB
  go_enter Tryz.func92, Tryz.ntmps92
  go_wp2_with (first
   | (at_builtin; refine wpList_copy _ rfl _ _ rfl w.heap.size w.heap.size 0 rfl HM.out (some a) n cap _ L HLn.out hn rfl HR.out (by simp) ?_; intro g' c' w2 hc hown hbw))
  have HO := Lib.hid hown
  have HB2 := Lib.hid (hbw _ _ HB1.out (by simp) (Nat.le_refl _))
  clear hown hbw
  go_ret
  exact ⟨_, c', rfl, hc, HO.out, HB2.out⟩
end Go.Proofs.YtmenmepdmojnfaaGreatDoor.Flp

namespace Go.Proofs.YtmenmepdmojnfaaGreatDoor.Flp
set_option linter.unusedVariables false
set_option linter.unusedSimpArgs false
set_option maxRecDepth 100000
open Go.RowKit Go.Proofs.YtmenmepdmojnfaaGreatDoor.Cell Go.Proofs.YtmenmepdmojnfaaGreatDoor.Dom Go.Proofs.YtmenmepdmojnfaaGreatDoor.Dms Go.Joins
open Go.Proofs.YtmenmepdmojnfaaGreatDoor.Reg (own_below own_base)
open Go.Proofs.YtmenmepdmojnfaaGreatDoor.Cmp (own_cut own_setCells grown_setCells grown_trans run_clear own_at own_put grown_put)

def At6 (W : World) (q : Nat) (d f : Dm) : Prop := W.heap[q]? = some (.cells #[.int .i64 d.1, .int .i64 d.2.1, .bool d.2.2, .int .i64 f.1, .int .i64 f.2.1, .bool f.2.2] 137)
section
variable {W W' : World} {q : Nat} {d f : Dm}
theorem At6.lt (h : At6 W q d f) : q < W.heap.size := (Array.getElem?_eq_some_iff.1 h).1
theorem At6.on (h : At6 W q d f) (hb : Below W.heap.size W W') : At6 W' q d f := (hb.block q h.lt).trans h
theorem At6.grown {g : Nat} (h : At6 W q d f) (hg : W.grownBy W' (some g)) (hne : q ≠ g) : At6 W' q d f := (hg.block q h.lt (fun e => hne (by cases e; rfl))).trans h
theorem At6.row (h : At6 W q d f) : RowM W W.heap.size (some ⟨q, 0, none⟩) [d, f] := by
 refine ⟨q, 0, fun _ => ⟨rfl, h.lt⟩, fun j p hp => ?_⟩
 rcases j with _ | _ | j
 ·simp at hp; subst hp
  exact ⟨(cell_of_row _ _ 0 _ _ _ h).trans rfl, (cell_of_row _ _ 1 _ _ _ h).trans rfl, (cell_of_row _ _ 2 _ _ _ h).trans rfl⟩
 ·simp at hp; subst hp
  exact ⟨(cell_of_row _ _ 3 _ _ _ h).trans rfl, (cell_of_row _ _ 4 _ _ _ h).trans rfl, (cell_of_row _ _ 5 _ _ _ h).trans rfl⟩
 ·simp at hp
end
theorem DB.drew {w W : World} {d : Dm} (h : DB w d W) : DB w d W.drew := ⟨h.1.drew, h.2⟩
def oneB (d f p : Dm) : Bool := decide (p ∈ [d, f])
theorem one_iff {d f p : Dm} : oneB d f p = true ↔ p = d ∨ p = f := by unfold oneB; rw [decide_eq_true_eq]; simp
set_option maxHeartbeats 1000000 in
theorem iDel (W : World) (q : Nat) (d f p : Dm) (h : At6 W q d f) :
  Calls Tryz.prog 109 #[dmV p, .pointer (some ⟨q, 0, none⟩)] W (Bol (oneB d f p) W) := by
 have HC := Lib.hid (fun W' (hb : Below W.heap.size W W') => iContains W' (some ⟨q, 0, none⟩) 2 2 W'.heap.size [d, f] rfl (by omega) (((h.on hb).row)) (Nat.le_refl _) p)
 have T0 := Lib.hid (db_start p W)
 have HO := Lib.hid (show oneB d f p = decide (p ∈ [d, f]) from rfl)
 generalize oneB d f p = r at HO ⊢
 rw [← HO.out] at HC
 clear h HO
 obtain ⟨x, y, c⟩ := p
 go_enter Tryz.func109, Tryz.ntmps109
 go_wp2_with fail
 have T1 := T0.out
 generalize W.alloc _ = W1 at T1 ⊢
 refine wp_region_noPanic ?_
 refine wp_region_held_drew (S := (fun w' => w'.cell? ⟨W.heap.size, 0, none⟩ = some (.int .i64 x) ∧ w'.cell? ⟨W.heap.size, 1, none⟩ = some (.int .i64 y) ∧ w'.cell? ⟨W.heap.size, 2, none⟩ = some (.bool c))) (by kernel_rfl) (⟨At3.c0 T1.2, At3.c1 T1.2, At3.c2 T1.2⟩) (fun hHeld => ?_)
 have HB := Lib.hid (show DB W (x, y, c) W1.drew from T1.drew)
 clear T0 T1
 generalize World.drew _ = W2 at HB hHeld ⊢
 refine wpAnyH_take (i := 0) (v := ?_) rfl (by kernel_rfl) (by kernel_rfl) (by kernel_rfl) (fun _ _ _ h => h) (Or.inl ⟨by rfl, ?_⟩) (by assumption) ?_
 rotate_left
 ·(intro w' hS; (try dsimp only at hS); go_simp; try with_reducible rfl)
 try simp only [Act.put, List.getElem_toArray, List.getElem_cons_succ, List.getElem_cons_zero, List.setIfInBounds_toArray, List.set_cons_zero, List.set_cons_succ]
 refine wpAnyH_take (i := 1) (v := ?_) rfl (by kernel_rfl) (by kernel_rfl) (by kernel_rfl) (fun _ _ _ h => h) (Or.inl ⟨by rfl, ?_⟩) (by assumption) ?_
 rotate_left
 ·(intro w' hS; (try dsimp only at hS); go_simp; try with_reducible rfl)
 try simp only [Act.put, List.getElem_toArray, List.getElem_cons_succ, List.getElem_cons_zero, List.setIfInBounds_toArray, List.set_cons_zero, List.set_cons_succ]
 refine wpAnyH_ready (rs := [2]) (by kernel_rfl) (by simp) ?_
 refine AllReadyH.cons rfl (fun K hK => ?_) AllReadyH.nil
 go_simp
 refine (HC.out _ HB.out.1).mono ?_
 rintro e wx ⟨rfl, hbx⟩
 have HB2 := Lib.hid (HB.out.on hbx)
 clear hbx HB hHeld
 go_wp2_with fail
 refine hK.out _ _ (⟨At3.c0 HB2.out.2, At3.c1 HB2.out.2, At3.c2 HB2.out.2⟩) (fun hHeld => ?_)
 clear hK K
 try simp only [Act.put, List.getElem_toArray, List.getElem_cons_succ, List.getElem_cons_zero, List.setIfInBounds_toArray, List.set_cons_zero, List.set_cons_succ]
 refine wpAnyH_take (i := 3) (v := ?_) rfl (by kernel_rfl) (by kernel_rfl) (by kernel_rfl) (fun _ _ _ h => h) (Or.inl ⟨by rfl, ?_⟩) (by assumption) ?_
 rotate_left
 ·(intro w' hS; (try dsimp only at hS); go_simp; try with_reducible rfl)
 try simp only [Act.put, List.getElem_toArray, List.getElem_cons_succ, List.getElem_cons_zero, List.setIfInBounds_toArray, List.set_cons_zero, List.set_cons_succ]
 refine wpAnyH_done (by kernel_rfl) ?_ _
 refine NoPanic.normal ?_
 clear hHeld
 go_wp2
 go_ret
 exact mkBol rfl HB2.out.1

theorem oth_stop {L : List Dm} {d f : Dm} {k : Nat} (hk : k < L.length) (h1 : ∀ j (hj : j < L.length), j < k → oneB d f L[j] = false) (h2 : oneB d f L[k] = true) : othTo L d f (k + 1) = L.take k := by
 rw [othTo_no hk (one_iff.1 h2)]
 unfold othTo
 refine List.filter_eq_self.2 fun p hp => ?_
 obtain ⟨j, hj, rfl⟩ := List.getElem_of_mem hp
 rw [List.length_take] at hj
 rw [List.getElem_take]
 have := h1 j (by omega) (by omega)
 have hn : ¬ (L[j] = d ∨ L[j] = f) := fun q => by rw [one_iff.2 q] at this; cases this
 rw [Bool.and_eq_true, decide_eq_true_eq, decide_eq_true_eq]
 exact ⟨fun q => hn (.inl q), fun q => hn (.inr q)⟩
def IdxP (L : List Dm) (d f : Dm) (n : Nat) (w : World) (e : Ending) (w' : World) : Prop := ∃ k : Nat, e = .returned (.int .i64 k) ∧ k < n ∧ othTo L d f (k + 1) = L.take k ∧ Below w.heap.size w w'
set_option maxHeartbeats 2000000 in
theorem iIdxF (w : World) (base g n cap q : Nat) (L : List Dm) (d f : Dm) (hn : (n : Int) ≤ 1048576) (hown : w.ownsRow base 73 3 (.slice (some ⟨g, 0, none⟩) n cap) n (rowM L)) (hq : At6 w q d f) (hex : ∃ p ∈ L, oneB d f p = true) :
  Calls Tryz.prog 138 #[.slice (some ⟨g, 0, none⟩) n cap, .func (.func 109) #[] #[.pointer (some ⟨q, 0, none⟩)]] w (IdxP L d f n w) := by
 have hlen : L.length = n := by have := hown.1; rw [rowM_length] at this; omega
 have HL := Lib.hid hlen
 have HO := Lib.hid hown
 have HQ := Lib.hid hq
 have HX := Lib.hid hex
 clear hlen hown hq hex
 go_enter Tryz.func138, Tryz.ntmps138
 go_wp2_with fail
 go_loopw [5, 8] (fun _ i wr => ∃ k : Nat, k ≤ n ∧ i = .int .i64 k ∧ Below w.heap.size w wr ∧ Hid (∀ j (hj : j < L.length), j < k → oneB d f L[j] = false)) (fun _ i _ => n - (intOf i).toNat)
 case atStart => exact ⟨0, Nat.zero_le _, rfl, Below.refl _ _, Lib.hid (fun j _ h => by omega)⟩
 case round =>
  obtain ⟨k, hk, rfl, hb, HN⟩ := hrel
  by_cases hlt : k < n
  ·have hkL : k < L.length := by rw [HL.out]; exact hlt
   have hown := own_below HO.out hb (Nat.le_refl _)
   obtain ⟨c0, c1, c2⟩ := own_at hown (List.getElem?_eq_getElem hkL) (k * 3) rfl
   have HQ1 := Lib.hid (HQ.out.on hb)
   have HY := Lib.hid (fun h2 => oth_stop hkL HN.out h2)
   have HZ := Lib.hid (show oneB d f L[k] = false → ∀ j (hj : j < L.length), j < k + 1 → oneB d f L[j] = false from fun h0 j hj hj1 => by
    by_cases e : j = k
    ·subst e; exact h0
    ·exact HN.out j hj (by omega))
   generalize L[k] = p at c0 c1 c2 HY HZ
   have HD := Lib.hid (iDel wr q d f p HQ1.out)
   generalize oneB d f p = r at HD HY HZ
   obtain ⟨x, y, b⟩ := p
   have HB := Lib.hid hb
   have hkn : (k : Int) < (n : Int) := by omega
   clear hown hb HN HX
   go_wp2_with fail
   refine HD.out.mono ?_
   rintro e w1 ⟨rfl, hb1⟩
   have HB1 := Lib.hid (HB.out.trans (hb1.mono HB.out.size))
   clear hb1 HD HB c0 c1 c2
   cases r with
   | true =>
    have HE := Lib.hid (HY.out rfl)
    go_wp2
    go_ret
    exact ⟨k, rfl, hlt, HE.out, HB1.out⟩
   | false =>
    have HE := Lib.hid (HZ.out rfl)
    go_wp2
    go_roundw
    case rel => exact ⟨k + 1, by omega, by go_num, HB1.out, HE⟩
    case measure => (simp [intOf] <;> omega)
  ·exfalso
   obtain ⟨p, hp, ho⟩ := HX.out
   obtain ⟨j, hj, rfl⟩ := List.getElem_of_mem hp
   rw [HN.out j hj (by have := HL.out; omega)] at ho
   cases ho
theorem grown_below {w W : World} {g : Nat} (h : Below w.heap.size w W) : w.grownBy W (some g) := ⟨h.os, h.tape, h.output, h.size, fun k hk _ => h.block k hk⟩
def DelP (M : List Dm) (base g cap : Nat) (w : World) (e : Ending) (w' : World) : Prop := ∃ m : Nat, e = .returned (.slice (some ⟨g, 0, none⟩) m cap) ∧ m = M.length ∧ w'.ownsRow base 73 3 (.slice (some ⟨g, 0, none⟩) m cap) m (rowM M) ∧ w.grownBy w' (some g)
set_option maxHeartbeats 4000000 in
theorem iDeleteF (w : World) (base g n cap q : Nat) (L : List Dm) (d f : Dm) (hn : (n : Int) ≤ 1048576) (hown : w.ownsRow base 73 3 (.slice (some ⟨g, 0, none⟩) n cap) n (rowM L)) (hq : At6 w q d f) (hne : q ≠ g) (hex : ∃ p ∈ L, oneB d f p = true) :
  Calls Tryz.prog 108 #[.slice (some ⟨g, 0, none⟩) n cap, .func (.func 109) #[] #[.pointer (some ⟨q, 0, none⟩)]] w (DelP (othTo L d f n) base g cap w) := by
 have hlen : L.length = n := by have := hown.1; rw [rowM_length] at this; omega
 have hcap : n ≤ cap := by
  rcases hown.2 with ⟨h, _⟩ | ⟨g', cap', cur, h, hg, hh, h1, h2, h3, _⟩
  ·cases h
  ·injection h with ha _ hc
   subst hc; exact h1
 have hcapI : (n : Int) ≤ (cap : Int) := by omega
 have HL := Lib.hid hlen
 have HI := Lib.hid (iIdxF w base g n cap q L d f hn hown hq hex)
 have HO := Lib.hid hown
 have HQ := Lib.hid hq
 clear hlen hown hq hex
 go_enter Tryz.func108, Tryz.ntmps108
 go_wp2_with fail
 refine HI.out.mono ?_
 rintro e w1 ⟨k0, rfl, hk0, hst, hb1⟩
 have hk0m : ((k0 : Int) == -1) = false := by rw [beq_eq_false_iff_ne]; omega
 have HS0 := Lib.hid (show k0 = (othTo L d f (k0 + 1)).length by rw [hst, List.length_take]; have := HL.out; omega)
 have HR0 := Lib.hid (show w1.ownsRow base 73 3 (.slice (some ⟨g, 0, none⟩) n cap) n (rowM (othTo L d f (k0 + 1) ++ L.drop k0)) by
  rw [hst, List.take_append_drop]; exact own_below HO.out hb1 (Nat.le_refl _))
 have HG0 := Lib.hid (grown_below (g := g) hb1)
 clear HI HO hst hb1
 go_wp2_with fail
 go_loopw [5, 6] (fun i j wr => ∃ kk k : Nat, i = .int .i64 kk ∧ j = .int .i64 k ∧ k ≤ n ∧ kk < k ∧ kk = (othTo L d f k).length ∧ wr.ownsRow base 73 3 (.slice (some ⟨g, 0, none⟩) n cap) n (rowM (othTo L d f k ++ L.drop kk)) ∧ w.grownBy wr (some g)) (fun _ j _ => n - (intOf j).toNat)
 case atStart => exact ⟨k0, k0 + 1, rfl, by go_num, by omega, by omega, HS0.out, HR0.out, HG0.out⟩
 case round =>
  clear HS0 HR0 HG0
  obtain ⟨kk, k, rfl, rfl, hkn, hkk, hkl, hown, hgr⟩ := hrel
  by_cases hlt : k < n
  ·have hkL : k < L.length := by rw [HL.out]; exact hlt
   have hkkM : kk < L.length := by omega
   have a1 : (othTo L d f k ++ L.drop kk)[k]? = some L[k] := by
    rw [List.getElem?_append_right (by omega), ← hkl, List.getElem?_drop, show kk + (k - kk) = k by omega]; exact List.getElem?_eq_getElem hkL
   have hdr : L.drop kk = L[kk]'hkkM :: L.drop (kk + 1) := List.drop_eq_getElem_cons hkkM
   obtain ⟨c0, c1, c2⟩ := own_at hown a1 (k * 3) rfl
   have HQ1 := Lib.hid (HQ.out.grown hgr hne)
   have HY := Lib.hid (fun (h : oneB d f L[k] = false) => othTo_yes (d := d) (f := f) hkL (fun e => by rw [one_iff.2 (.inl e)] at h; cases h) (fun e => by rw [one_iff.2 (.inr e)] at h; cases h))
   have HN := Lib.hid (fun (h : oneB d f L[k] = true) => othTo_no (d := d) (f := f) hkL (one_iff.1 h))
   generalize L[k] = p at c0 c1 c2 HY HN
   generalize L[kk]'hkkM = pk at hdr
   have HD := Lib.hid (fun W hb => iDel W q d f p (HQ1.out.on hb))
   generalize oneB d f p = r at HD HY HN
   obtain ⟨x, y, b⟩ := p
   have hbx := below_alloc1 wr (.cells #[.int .i64 x, .int .i64 y, .bool b] 73)
   have HB := Lib.hid hbx
   have KB := Lib.hid (At3.new 73 wr x y b)
   have HOwn := Lib.hid hown
   have HGr := Lib.hid hgr
   have HKL := Lib.hid hkl
   have HDr := Lib.hid hdr
   have hknI : (k : Int) < (n : Int) := by omega
   have hkkI : (kk : Int) < (n : Int) := by omega
   clear hown hgr hkl hdr hbx a1 HQ1
   go_wp2_with fail
   generalize wr.alloc (.cells #[.int .i64 x, .int .i64 y, .bool b] 73) = W1 at HB KB ⊢
   refine (HD.out _ HB.out).mono ?_
   rintro e w2 ⟨rfl, hb2⟩
   have HB2 := Lib.hid (HB.out.trans (hb2.mono HB.out.size))
   have KB2 := Lib.hid (At3.on KB.out hb2)
   clear hb2 HB KB HD c0 c1 c2
   have HG2 := Lib.hid (grown_trans HGr.out (grown_below (g := g) HB2.out))
   have hown2 := own_below HOwn.out HB2.out (Nat.le_refl _)
   clear HOwn HGr
   cases r with
   | true =>
    have HE := Lib.hid (HN.out rfl)
    have HO2 := Lib.hid hown2
    clear hown2 HY HN KB2
    go_wp2
    go_roundw
    case rel => exact ⟨kk, k + 1, rfl, by go_num, by omega, by omega, by rw [HE.out]; exact HKL.out, by rw [HE.out]; exact HO2.out, HG2.out⟩
    case measure => (simp [intOf] <;> omega)
   | false =>
    have HE := Lib.hid (HY.out rfl)
    have hx : kk * 3 + 2 < (rowM (othTo L d f k ++ L.drop kk)).length := by
     rw [rowM_length, HDr.out, List.length_append, List.length_cons, ← HKL.out]; omega
    have hu : ∀ i, i < (rowM (othTo L d f k ++ L.drop kk)).length → ∃ u, w2.cell? ⟨g, i, none⟩ = some u := fun i hi => ⟨_, (hown2.cellAt i (by have := hown2.1; omega)).trans (List.getElem?_eq_getElem hi)⟩
    obtain ⟨u0, hu0⟩ := hu (kk * 3) (by omega)
    obtain ⟨u1, hu1⟩ := hu (kk * 3 + 1) (by omega)
    obtain ⟨u2, hu2⟩ := hu (kk * 3 + 2) (by omega)
    have hf0 : w2.frozen? ⟨g, kk * 3, none⟩ = false := hown2.frozenAt (kk * 3)
    have hf1 : w2.frozen? ⟨g, kk * 3 + 1, none⟩ = false := hown2.frozenAt (kk * 3 + 1)
    have hf2 : w2.frozen? ⟨g, kk * 3 + 2, none⟩ = false := hown2.frozenAt (kk * 3 + 2)
    have hst := own_put (q := (x, y, b)) hown2 (by rw [HDr.out])
    rw [← HKL.out] at hst
    have R := Lib.hid hst
    have HG3 := Lib.hid (grown_trans (grown_trans (grown_trans HG2.out (grown_put (kk * 3) (.int .i64 x))) (grown_put (kk * 3 + 1) (.int .i64 y))) (grown_put (kk * 3 + 2) (.bool b)))
    have c0 := At3.c0 KB2.out
    have c1 := At3.c1 KB2.out
    have c2 := At3.c2 KB2.out
    clear hown2 hst HY HN hu hx HDr KB2 HG2 HB2
    go_wp2
    go_roundw
    case rel => exact ⟨kk + 1, k + 1, by go_num, by go_num, by omega, by omega, by rw [HE.out, List.length_append, ← HKL.out]; rfl, by rw [HE.out, List.append_assoc]; exact R.out, HG3.out⟩
    case measure => (simp [intOf] <;> omega)
  ·obtain rfl : k = n := by omega
   have hcut := own_cut hown (k := kk) (by omega)
   have htk : (rowM (othTo L d f k ++ L.drop kk)).take (kk * 3) = rowM (othTo L d f k) := by
    rw [rowM_app, hkl, ← rowM_length, List.take_left]
   rw [htk] at hcut
   have hcl := fun ty => run_clear wr ty g (kk * 3) (k - kk) (cap - kk) (by omega) (fun j hj => by
    have hlen := hown.1
    rw [hown.cellAt (kk * 3 + j) (by omega), List.getElem?_eq_getElem (by omega)]; rfl) (fun j hj => hown.frozenAt (kk * 3 + j))
   have HR := Lib.hid (own_setCells (Builtin.zeroCells #[.int .i64 0, .int .i64 0, .bool false] (k - kk)).toList (kk * 3) wr hcut (Nat.le_refl _))
   have HGF := Lib.hid (grown_trans hgr (grown_setCells (g := g) (Builtin.zeroCells #[.int .i64 0, .int .i64 0, .bool false] (k - kk)).toList (kk * 3) wr))
   have hkc : ¬ (cap = kk) := by omega
   have hkc2 : (kk : Int) ≤ (k : Int) := by omega
   have hkc3 : (kk : Int) ≤ (cap : Int) := by omega
   have HKK := Lib.hid hkl
   generalize (Builtin.zeroCells #[.int .i64 0, .int .i64 0, .bool false] (k - kk)).toList = zs at hcl HR HGF
   clear hown hcut htk hgr hkl HQ
   go_wp2
   go_ret
   exact ⟨kk, rfl, HKK.out, HR.out, HGF.out⟩
end Go.Proofs.YtmenmepdmojnfaaGreatDoor.Flp
