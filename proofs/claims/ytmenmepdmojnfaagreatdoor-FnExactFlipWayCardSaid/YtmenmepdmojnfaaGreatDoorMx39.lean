/- WgN, WyN, RegL2 in one text. -/
import Derived.Test.YtmenmepdmojnfaaGreatDoorMx20
import Derived.Test.YtmenmepdmojnfaaGreatDoorMx28
import Derived.Lib.AppendZeros
import Derived.Test.YtmenmepdmojnfaaGreatDoorMx06

namespace Go.Proofs.YtmenmepdmojnfaaGreatDoor.Wg
set_option linter.unusedVariables false
set_option linter.unusedSimpArgs false
open Go.RowKit Go.Proofs.YtmenmepdmojnfaaGreatDoor.Pure Go.Proofs.YtmenmepdmojnfaaGreatDoor.Dms Go.Proofs.YtmenmepdmojnfaaGreatDoor.Til Go.Proofs.YtmenmepdmojnfaaGreatDoor.Grd Go.Proofs.YtmenmepdmojnfaaGreatDoor.Flp Go.Joins
open Go.Proofs.YtmenmepdmojnfaaGreatDoor.Lis (allT all_til all_order Bfr Bfr.ne)

theorem flip_inj {xs : List Int} {L : List Dm} {x y u v : Int} (hL : tilB xs L = true) (h1 : canB L x y = true) (h2 : canB L u v = true) (e : flipL L x y = flipL L u v) : x = u ∧ y = v := by
 have hp : partB xs L = true := by unfold tilB at hL; rw [Bool.and_eq_true] at hL; exact hL.1
 have hv := part_valid hp
 have k1 : kindN L x y ≠ 0 := by have := of_decide_eq_true h1; omega
 have k2 : kindN L u v ≠ 0 := by have := of_decide_eq_true h2; omega
 obtain ⟨i1, b1⟩ := kind_is k1
 obtain ⟨i2, b2⟩ := kind_is k2
 have f1 := flip_yes k1
 have f2 := flip_yes k2
 generalize decide (kindN L x y = 2) = b at b1 f1
 generalize decide (kindN L u v = 2) = c at b2 f2
 have j1 := in6_iff.1 i1
 have j2 := in6_iff.1 i2
 rw [f1, f2] at e
 have gone : ∀ D, D ∈ L → (D = pr1 x y b ∨ D = pr2 x y b) → D = pr1 u v c ∨ D = pr2 u v c := by
  intro D hD hor
  have hn : D ∉ turn L x y b := by
   rw [mem_turn j1 hv]
   obtain ⟨c1, c2, c3, c4⟩ := cross (x := x) (y := y) b
   rintro (q | q | q)
   ·rcases hor with r | r
    ·exact c1 (q.symm.trans r)
    ·exact c2 (q.symm.trans r)
   ·rcases hor with r | r
    ·exact c3 (q.symm.trans r)
    ·exact c4 (q.symm.trans r)
   ·obtain ⟨_, q1, q2⟩ := mem_oth.1 q
    rcases hor with r | r
    ·exact q1 r
    ·exact q2 r
  rw [e, mem_turn j2 hv] at hn
  by_cases q1 : D = pr1 u v c
  ·exact .inl q1
  ·by_cases q2 : D = pr2 u v c
   ·exact .inr q2
   ·exact absurd (.inr (.inr (mem_oth.2 ⟨hD, q1, q2⟩))) hn
 obtain ⟨m1, m2⟩ := has2_iff.1 b1
 have g1 := gone _ m1 (.inl rfl)
 have g2 := gone _ m2 (.inr rfl)
 have hne := pair_ne (x := x) (y := y) b
 unfold pr1 pr2 at g1 g2 hne
 rcases g1 with g1 | g1
 ·injection g1 with e1 g1
  injection g1 with e2 _
  exact ⟨e1, e2⟩
 ·exfalso
  rcases g2 with g2 | g2
  ·cases c with
   | true =>
    simp only [if_true] at g1
    injection g1 with e1 g1
    injection g1 with e2 e3
    subst e3
    simp only [if_true] at g2
    injection g2 with e4 _
    omega
   | false =>
    simp only [Bool.false_eq_true, if_false] at g1
    injection g1 with e1 g1
    injection g1 with e2 e3
    subst e3
    simp only [Bool.false_eq_true, if_false] at g2
    injection g2 with e4 g2
    injection g2 with e5 _
    omega
  ·exact hne (g1.trans g2.symm)
theorem flips_nodup (L : List Dm) : (flipsR L).Nodup := by
 unfold flipsR
 rw [List.nodup_iff_pairwise_ne, List.pairwise_map]
 refine List.Pairwise.imp_of_mem ?_ (List.Pairwise.filter _ (List.nodup_iff_pairwise_ne.1 List.nodup_range))
 intro a b ha hb hab e
 injection e with e1 e2
 omega
theorem lnk_nodup {xs : List Int} (ho : okR xs) {k : Nat} (hk : k < (allT xs).length) : (lnk (allT xs) k).Nodup := by
 rw [lnk_map ho hk, List.nodup_iff_pairwise_ne, List.pairwise_map]
 refine List.Pairwise.imp_of_mem ?_ (List.nodup_iff_pairwise_ne.1 (flips_nodup _))
 intro a b ha hb hab e
 obtain ⟨_, e1, _⟩ := flip_at ho hk ha
 obtain ⟨_, e2, _⟩ := flip_at ho hk hb
 have e3 : flipL (allT xs)[k] a.1 a.2 = flipL (allT xs)[k] b.1 b.2 := by
  rw [← e1, ← e2]
  simp only [e]
 obtain ⟨q1, q2⟩ := flip_inj (at_til ho hk) (flips_can ha) (flips_can hb) e3
 exact hab (Prod.ext q1 q2)
theorem asc_uniq : ∀ {a b : List Nat}, a.Pairwise (· < ·) → b.Pairwise (· < ·) → (∀ x, x ∈ a ↔ x ∈ b) → a = b
 | [], [], _, _, _ => rfl
 | [], y :: b, _, _, h => absurd ((h y).2 List.mem_cons_self) (by simp)
 | x :: a, [], _, _, h => absurd ((h x).1 List.mem_cons_self) (by simp)
 | x :: a, y :: b, ha, hb, h => by
  rw [List.pairwise_cons] at ha hb
  have hxy : x = y := by
   have h1 := (h x).1 List.mem_cons_self
   have h2 := (h y).2 List.mem_cons_self
   rcases List.mem_cons.1 h1 with q | q
   ·exact q
   ·rcases List.mem_cons.1 h2 with r | r
    ·exact r.symm
    ·have := hb.1 x q; have := ha.1 y r; omega
  subst hxy
  congr 1
  refine asc_uniq ha.2 hb.2 fun z => ?_
  constructor
  ·intro hz
   rcases List.mem_cons.1 ((h z).1 (List.mem_cons_of_mem _ hz)) with q | q
   ·subst q; have := ha.1 z hz; omega
   ·exact q
  ·intro hz
   rcases List.mem_cons.1 ((h z).2 (List.mem_cons_of_mem _ hz)) with q | q
   ·subst q; have := hb.1 z hz; omega
   ·exact q
def nbG (all : List (List Dm)) (k : Nat) : List Nat := (List.range all.length).filter fun j => decide (j ∈ lnk all k)
theorem nbG_mem {all : List (List Dm)} {k j : Nat} : j ∈ nbG all k ↔ j ∈ lnk all k := by
 unfold nbG
 rw [List.mem_filter, List.mem_range, decide_eq_true_eq]
 exact ⟨fun h => h.2, fun h => ⟨lnk_lt h, h⟩⟩
theorem nbG_asc (all : List (List Dm)) (k : Nat) : (nbG all k).Pairwise (· < ·) := List.Pairwise.filter _ List.pairwise_lt_range
theorem nbG_sort {xs : List Int} (ho : okR xs) {k : Nat} (hk : k < (allT xs).length) {s : List Nat} (hp : s.Perm (lnk (allT xs) k)) (hs : s.Pairwise (· ≤ ·)) : s = nbG (allT xs) k := by
 have hn : s.Nodup := hp.nodup_iff.2 (lnk_nodup ho hk)
 refine asc_uniq ?_ (nbG_asc _ _) fun x => by rw [nbG_mem]; exact hp.mem_iff
 have h2 := List.nodup_iff_pairwise_ne.1 hn
 exact (hs.and h2).imp fun h => Nat.lt_of_le_of_ne h.1 h.2

end Go.Proofs.YtmenmepdmojnfaaGreatDoor.Wg

namespace Go.Proofs.YtmenmepdmojnfaaGreatDoor.Wg
set_option linter.unusedVariables false
set_option linter.unusedSimpArgs false
set_option maxRecDepth 100000
open Go.RowKit Go.Proofs.YtmenmepdmojnfaaGreatDoor.Base Go.Proofs.YtmenmepdmojnfaaGreatDoor.Dms Go.Proofs.YtmenmepdmojnfaaGreatDoor.Til Go.Proofs.YtmenmepdmojnfaaGreatDoor.Dss Go.Joins
open Go.Proofs.YtmenmepdmojnfaaGreatDoor.Lst (halfR_le listR listR_small listR_half sListTilings idxR idx_at idx_end sIndexOf)
open Go.Proofs.YtmenmepdmojnfaaGreatDoor.Ext (SSP halfR allR allR_ok allR_not)
open Go.Proofs.YtmenmepdmojnfaaGreatDoor.Lis (append_any)
open Go.Proofs.YtmenmepdmojnfaaGreatDoor.Reg hiding Yes add_none RC rc_start

theorem wpList_copyN (w : World) {ops : Array Oper} {rest : List Oper} {o : Oper} {a : Act} {Q : Exit → Act → World → Prop} (hgd : o.guard = none) (s x : Operand)
  (ho : o.op = .call { callee := .builtin .append, args := #[s, x], argTypes := #[24, 24] })
  (base g c : Nat) (hs : a.eval s = .slice (some ⟨g, 0, none⟩) 0 c) (hown : w.ownsRow base 3 1 (.slice (some ⟨g, 0, none⟩) 0 c) 0 [])
  (A : Option Addr) (n cap B : Nat) (l : List Nat) (hL : l.length = n) (hn : (n : Int) ≤ 1048576000) (hx : a.eval x = .slice A n cap) (hr : RdN w B A l) (hbase : base ≤ w.heap.size)
  (h : ∀ g' cap' w', w'.ownsRow base 3 1 (.slice (some ⟨g', 0, none⟩) n cap') n (natV l) → w.grownBy w' (some g) → wpList Tryz.prog ops Q rest (a.put o.dst (.slice (some ⟨g', 0, none⟩) n cap')) w') : wpList Tryz.prog ops Q (o :: rest) a w := by
 obtain ⟨i0, hi, hz0, hz1, hz2⟩ := info_parts intInfo
 rcases Nat.eq_zero_or_pos n with h0 | h0
 ·subst h0
  have hL0 := List.eq_nil_of_length_eq_zero hL
  subst hL0
  refine Go.Lib.wpList_append_run w hgd s x _ _ ho _ _ hs hx (.slice (some ⟨g, 0, none⟩) 0 c) w ?_ (h g c w hown (World.grownBy.refl _ _))
  cases A <;> simp [Builtin.append_, run_underlying Tryz.underlying24, sizeOf, typeInfo, hi, Builtin.lenOf, Builtin.firstCells, loadCells, loadCellsFrom, storeCells]
 ·obtain ⟨b, hA, hc⟩ := hr
  obtain ⟨rfl, hb⟩ := hA (by omega)
  refine append_any w hgd s x 24 ho base 3 i0 (.int .i64 0) 1 8 Tryz.underlying24 hi hz0 hz1 hz2 rfl (by decide) g 0 c [] hs hown ⟨b, 0, none⟩ n cap (natV l) hx (by rw [natV_length, hL, Nat.mul_one]) (fun j u hu => by
   have hj : j < l.length := by have := (List.getElem?_eq_some_iff.1 hu).1; rwa [natV_length] at this
   rw [Base.add_plain, hc j hj]
   have := natV_at (List.getElem?_eq_getElem hj)
   rw [this] at hu
   exact hu) (fun u hu => by
   unfold natV at hu
   obtain ⟨v, _, rfl⟩ := List.mem_map.1 hu
   rfl) (by unfold maxLen; omega) (by omega) hbase ?_
  intro g' cap' w' k1 k2 k3 k4
  rw [Nat.zero_add, List.nil_append] at k1
  rw [Nat.zero_add]
  exact h g' cap' w' k1 k2
def rowG (Q : List Nat) (j : Nat) (u : Value) (S : List Nat) : List Value := natV (Q.take j) ++ u :: (natV (Q.drop j) ++ natV S)
theorem natV_app (a b : List Nat) : natV (a ++ b) = natV a ++ natV b := by unfold natV; simp
theorem rowG_start (Q : List Nat) (x : Nat) (S : List Nat) : natV (Q ++ x :: S) = rowG Q Q.length (.int .i64 (x : Int)) S := by
 unfold rowG
 rw [natV_app, List.take_length, List.drop_length]; rfl
theorem rowG_put {Q : List Nat} {j : Nat} (hj : j ≤ Q.length) (u v : Value) (S : List Nat) : (rowG Q j u S).set j v = rowG Q j v S := by
 unfold rowG
 have hl : (natV (Q.take j)).length = j := by rw [natV_length, List.length_take]; omega
 rw [List.set_append_right _ _ (by omega), hl, Nat.sub_self, List.set_cons_zero]
theorem rowG_down {Q : List Nat} {j : Nat} (hj : j < Q.length) (u : Value) (S : List Nat) : rowG Q (j + 1) (.int .i64 ((Q[j] : Nat) : Int)) S = rowG Q j (.int .i64 ((Q[j] : Nat) : Int)) S := by
 unfold rowG
 rw [List.take_succ_eq_append_getElem hj, natV_snoc, List.drop_eq_getElem_cons hj, List.append_assoc]; rfl
theorem rowG_prev {Q : List Nat} {j : Nat} (hj : j < Q.length) (u : Value) (S : List Nat) : (rowG Q (j + 1) u S)[j]? = some (.int .i64 ((Q[j] : Nat) : Int)) := by
 unfold rowG
 rw [List.getElem?_append_left (by rw [natV_length, List.length_take]; omega)]
 exact natV_at (by rw [List.getElem?_take, if_pos (by omega), List.getElem?_eq_getElem hj])
theorem rowG_end (Q : List Nat) (j x : Nat) (S : List Nat) : rowG Q j (.int .i64 (x : Int)) S = natV ((Q.take j ++ x :: Q.drop j) ++ S) := by
 unfold rowG
 rw [natV_app, natV_app, List.append_assoc]; rfl
theorem ins_asc {Q : List Nat} {j x : Nat} (hQ : Q.Pairwise (· ≤ ·)) (h1 : ∀ y, y ∈ Q.drop j → x ≤ y) (h2 : ∀ y, y ∈ Q.take j → y ≤ x) : (Q.take j ++ x :: Q.drop j).Pairwise (· ≤ ·) := by
 rw [← List.take_append_drop j Q, List.pairwise_append] at hQ
 rw [List.pairwise_append, List.pairwise_cons]
 refine ⟨hQ.1, ⟨h1, hQ.2.1⟩, fun a ha b hb => ?_⟩
 rcases List.mem_cons.1 hb with q | q
 ·rw [q]; exact h2 a ha
 ·exact hQ.2.2 a ha b q
theorem ins_perm (Q : List Nat) (j x : Nat) : (Q.take j ++ x :: Q.drop j).Perm (Q ++ [x]) := by
 refine List.perm_middle.trans ?_
 rw [List.take_append_drop]
 exact (List.perm_append_singleton x Q).symm
theorem le_take {Q : List Nat} {j x : Nat} (hQ : Q.Pairwise (· ≤ ·)) (hj : j < Q.length) (h : Q[j] ≤ x) : ∀ y, y ∈ Q.take (j + 1) → y ≤ x := by
 intro y hy
 obtain ⟨i, hi, rfl⟩ := List.getElem_of_mem hy
 rw [List.length_take] at hi
 rw [List.getElem_take]
 by_cases e : i = j
 ·subst e; exact h
 ·exact Nat.le_trans (List.pairwise_iff_getElem.1 hQ i j (by omega) hj (by omega)) h
def NbR (T : List (List Dm)) (L : List Dm) (s : List Nat) : Prop := (∃ (k : Nat) (hk : k < T.length), T[k] = L ∧ s.Perm (lnk T k) ∧ s.Pairwise (· ≤ ·)) ∨ (L ∉ T ∧ s = [])
def NbRP (T : List (List Dm)) (L : List Dm) (w : World) (e : Ending) (w' : World) : Prop := ∃ (s : List Nat) (A : Option Addr) (c : Nat), e = .returned (.slice A s.length c) ∧ w'.ownsRow w.heap.size 3 1 (.slice A s.length c) s.length (natV s) ∧ NbR T L s ∧ Below w.heap.size w w'
set_option maxHeartbeats 8000000 in
theorem sFlipNeighbors (w : World) (A : Option Addr) (n cap B : Nat) (xs : List Int) (hx : xs.length = n) (hn : (n : Int) ≤ 9223372036854775807) (hrow : RowB w B A xs) (hB : B ≤ w.heap.size)
  (A1 : Option Addr) (n1 cap1 B1 : Nat) (L : List Dm) (hL : L.length = n1) (hn1 : (n1 : Int) ≤ 9223372036854775807) (h1 : RowM w B1 A1 L) (hB1 : B1 ≤ w.heap.size) :
  Calls Tryz.prog 22 #[.agg #[.slice A n cap], .slice A1 n1 cap1] w (NbRP (listR xs) L w) := by
 have HI1 := Lib.hid (fun W (hb : Below w.heap.size w W) => sIndexOf W A n cap B xs hx hn (hrow.below hb hB) (by have := hb.size; omega) A1 n1 cap1 B1 L hL hn1 (h1.below hb hB1) (by have := hb.size; omega))
 have HLs := Lib.hid (fun W (hb : Below w.heap.size w W) => sListTilings W A n cap B xs hx hn (hrow.below hb hB) (by have := hb.size; omega))
 have HS := Lib.hid (below_alloc1 w (.cells #[.slice A n cap] 26))
 have HR := Lib.hid (Rg.new w (.slice A n cap))
 have hsm := listR_small xs
 have HHf := Lib.hid (listR_half (xs := xs))
 have hhf := halfR_le xs
 unfold SSP at HLs
 generalize listR xs = T at HI1 HLs hsm HHf ⊢
 generalize halfR xs = h at HLs HHf hhf
 have q1 := idx_two T L
 have hlnl := lnk_length T
 obtain ⟨m, hm⟩ : ∃ m, T.length = m := ⟨_, rfl⟩
 have HM := Lib.hid hm
 rw [hm] at HLs hsm
 clear hx hn hrow hB hL hn1 h1 hB1 hm
 go_enter Tryz.func22, Tryz.ntmps22
 go_wp2_with fail
 generalize w.alloc (.cells #[.slice A n cap] 26) = W0 at HS HR ⊢
 have c0 := HR.out.c0
 refine (HI1.out _ HS.out).mono ?_
 rintro e w2 ⟨rfl, hb1⟩
 have B2 := Lib.hid (HS.out.trans (hb1.mono HS.out.size))
 have R2 := Lib.hid (HR.out.on hb1)
 clear hb1 HS HR c0 HI1
 rcases q1 with ⟨k, hk, ek, e1⟩ | ⟨no, e1⟩
 ·have hkm : k < m := by rw [← HM.out]; exact hk
  have hkI : (k : Int) < (m : Int) := by omega
  have HEk := Lib.hid (show T[k]? = some L by rw [List.getElem?_eq_getElem hk, ek])
  have hll := hlnl k
  rw [HM.out] at hll
  have hll2 : (lnk T k).length ≤ 100000 := by omega
  rw [e1]
  clear hk ek e1 hlnl hll
  have c0 := R2.out.c0
  go_wp2_with fail
  refine (HLs.out _ B2.out).mono ?_
  rintro e w3 ⟨A3, c3, rfl, hss, hb3⟩
  have B3 := Lib.hid (B2.out.trans (hb3.mono B2.out.size))
  have HSS := Lib.hid (ss_row hss)
  clear hss hb3 HLs B2 R2 c0
  go_wp2_with fail
  refine (sLinks w3 A3 m c3 w3.heap.size h T HM.out (by omega) HHf.out (by omega) HSS.out (Nat.le_refl _)).mono ?_
  rintro e w4 ⟨A4, c4, rfl, hrl, _, hb4⟩
  have B4 := Lib.hid (B3.out.trans (hb4.mono B3.out.size))
  obtain ⟨b4, h41, h42⟩ := hrl
  obtain ⟨rfl, hb4'⟩ := h41 (by omega)
  obtain ⟨sl, cl, ck, hrd⟩ := h42 k hkm
  obtain ⟨l, hl⟩ : ∃ l, lnk T k = l := ⟨_, rfl⟩
  have HLk := Lib.hid hl
  rw [hl] at ck hrd hll2
  obtain ⟨nl, hnl⟩ : ∃ nl, l.length = nl := ⟨_, rfl⟩
  have HNl := Lib.hid hnl
  rw [hnl] at ck hll2
  have HRd := Lib.hid (hrd.below (below_alloc1 w4 (.cells #[] 3)) (Nat.le_refl _))
  have HM4 := Lib.hid (World.ownsRow_made (base := w4.heap.size) (e := 3) (size := 1) w4 #[] 0 (Nat.le_refl _) (by unfold maxLen; omega) rfl)
  have HB4 := Lib.hid (B4.out.trans ((below_alloc1 w4 (.cells #[] 3)).mono B4.out.size))
  have hs4 := B4.out.size
  clear hb4 B3 HSS h41 h42 hrd hl hnl hb4'
  go_wp2_with (first
   | (at_builtin; refine wpList_copyN _ rfl _ _ rfl w4.heap.size w4.heap.size 0 rfl HM4.out sl nl cl _ l HNl.out (by omega) rfl HRd.out (by simp) ?_; intro g5 c5 w5 hown5 hgr5))
  have HO5 := Lib.hid (own_base hown5 hs4)
  have HB5 := Lib.hid (HB4.out.grown hgr5 (by simp; omega) (fun g e => by injection e with e; omega))
  clear hown5 hgr5 HM4 HB4 HRd ck
  go_wp2_with fail
  go_loopg [8] nl (fun gg si wr => ∃ (i : Nat) (Q : List Nat), i + gg = nl + 1 ∧ 1 ≤ i ∧ (i ≤ nl ∨ nl = 0) ∧ si = .int .i64 i ∧ Hid (Q.Perm (l.take i) ∧ Q.Pairwise (· ≤ ·)) ∧ Hid (wr.ownsRow w.heap.size 3 1 (.slice (some ⟨g5, 0, none⟩) nl c5) nl (natV (Q ++ l.drop i))) ∧ Hid (Below w.heap.size w wr))
  case atStart => exact ⟨1, l.take 1, by omega, by omega, by omega, rfl, Lib.hid ⟨List.Perm.refl _, by
   rcases l with _ | ⟨a, l⟩
   ·exact List.Pairwise.nil
   ·simp⟩, Lib.hid (by rw [List.take_append_drop]; exact HO5.out), HB5⟩
  case round =>
   clear HO5 HB5
   obtain ⟨i, Q, hgg, hi1, hi2, rfl, HQ, HO, HB⟩ := hrel
   by_cases hil : i < nl
   ·have hil2 : i < l.length := by rw [HNl.out]; exact hil
    have hQl : Q.length = i := by have := HQ.out.1.length_eq; rw [List.length_take] at this; omega
    have hdr : l.drop i = l[i] :: l.drop (i + 1) := List.drop_eq_getElem_cons hil2
    have HTk := Lib.hid (show l.take (i + 1) = l.take i ++ [l[i]] from List.take_succ_eq_append_getElem hil2)
    obtain ⟨x, hx⟩ : ∃ x, l[i] = x := ⟨_, rfl⟩
    rw [hx] at hdr HTk
    obtain ⟨S, hS⟩ : ∃ S, l.drop (i + 1) = S := ⟨_, rfl⟩
    rw [hS] at hdr
    have HSd := Lib.hid hS
    have hO0 := HO.out
    rw [hdr, rowG_start, hQl] at hO0
    have cx : wr.cell? ⟨g5, i, none⟩ = some (.int .i64 (x : Int)) := by
     refine (hO0.cellAt i (by omega)).trans ?_
     unfold rowG
     rw [List.getElem?_append_right (by rw [natV_length, List.length_take]; omega), natV_length, List.length_take, show i - min i Q.length = 0 by omega]
     rfl
    have HO1 := Lib.hid hO0
    have HQl := Lib.hid hQl
    have hiI : (i : Int) < (nl : Int) := by omega
    clear hx hS hdr hO0 HO hQl
    go_wp2_with fail
    clear cx
    go_loopg [10] i (fun gj sj wr2 => ∃ (u : Value), gj ≤ i ∧ sj = .int .i64 gj ∧ Hid (wr2.ownsRow w.heap.size 3 1 (.slice (some ⟨g5, 0, none⟩) nl c5) nl (rowG Q gj u S)) ∧ Hid (∀ y, y ∈ Q.drop gj → x ≤ y) ∧ Hid (Below w.heap.size w wr2))
    case atStart => exact ⟨_, Nat.le_refl _, rfl, HO1, Lib.hid (fun y hy => by rw [← HQl.out, List.drop_length] at hy; cases hy), HB⟩
    case round =>
     clear HO1 HB
     obtain ⟨u, hji, rfl, HO, HY, HB⟩ := hrel
     have hgl := HO.out.lt g5 rfl
     obtain ⟨v0, hv0⟩ : ∃ v0, wr.cell? ⟨g5, gk, none⟩ = some v0 := by
      have hl := HO.out.1
      rw [HO.out.cellAt gk (by omega)]
      exact ⟨_, List.getElem?_eq_getElem (by omega)⟩
     have hf := HO.out.frozenAt gk
     have hjI : (gk : Int) < (nl : Int) := by omega
     by_cases hstop : gk = 0 ∨ ∃ jp, ∃ (hq : jp < Q.length), gk = jp + 1 ∧ Q[jp] ≤ x
     ·have hst := (HO.out.stored gk (.int .i64 (x : Int))).1
      rw [rowG_put (by have := HQl.out; omega), rowG_end] at hst
      have HO2 := Lib.hid hst
      have HB2 := Lib.hid (HB.out.setCell (p := ⟨g5, gk, none⟩) hgl.1 (.int .i64 (x : Int)))
      have HQ2 := Lib.hid (show (Q.take gk ++ x :: Q.drop gk).Perm (l.take (i + 1)) ∧ (Q.take gk ++ x :: Q.drop gk).Pairwise (· ≤ ·) from
       ⟨by rw [HTk.out]; exact (ins_perm Q gk x).trans (HQ.out.1.append_right [x]), ins_asc HQ.out.2 HY.out (by
        rcases hstop with q | ⟨jp, hq, q, hle⟩
        ·subst q; intro y hy; simp at hy
        ·rw [q]; exact le_take HQ.out.2 hq hle)⟩)
      clear hst
      rcases hstop with q | ⟨jp, hq, q, hle⟩
      ·have hz : (gk : Int) = 0 := by omega
       subst q
       clear HO HB HY HQ
       go_wp2
       go_roundg (nl - i)
       case measure => omega
       case rel => exact ⟨i + 1, _, by omega, by omega, by omega, by go_num, HQ2, Lib.hid (by rw [HSd.out]; exact HO2.out), HB2⟩
      ·subst q
       have cq := (HO.out.cellAt jp (by omega)).trans (rowG_prev hq u S)
       generalize Q[jp] = qv at cq hle
       have hw : IntKind.i64.wrap (((jp + 1 : Nat) : Int) - 1) = (jp : Int) := by rw [IntKind.wrap_i64]; omega
       have hpos : (0 : Int) < ((jp + 1 : Nat) : Int) := by omega
       have hjpI : (jp : Int) < (nl : Int) := by omega
       have hnle : ¬ ((x : Int) < (qv : Int)) := by omega
       obtain ⟨jj, hjj⟩ : ∃ jj : Int, jj = ((jp + 1 : Nat) : Int) := ⟨_, rfl⟩
       clear HO HB HY HQ hle
       go_wp2
       go_roundg (nl - i)
       case measure => omega
       case rel => exact ⟨i + 1, _, by omega, by omega, by omega, by go_num, HQ2, Lib.hid (by rw [HSd.out]; exact HO2.out), HB2⟩
     ·obtain ⟨jp, rfl⟩ : ∃ jp, gk = jp + 1 := ⟨gk - 1, by omega⟩
      have hq : jp < Q.length := by have := HQl.out; omega
      have hlt : x < Q[jp] := Nat.lt_of_not_le (fun hle => hstop (.inr ⟨jp, hq, rfl, hle⟩))
      have cq := (HO.out.cellAt jp (by omega)).trans (rowG_prev hq u S)
      have hst := (HO.out.stored (jp + 1) (.int .i64 ((Q[jp] : Nat) : Int))).1
      rw [rowG_put (by omega), rowG_down hq u] at hst
      have HO2 := Lib.hid hst
      have HB2 := Lib.hid (HB.out.setCell (p := ⟨g5, jp + 1, none⟩) hgl.1 (.int .i64 ((Q[jp] : Nat) : Int)))
      have HY2 := Lib.hid (show ∀ y, y ∈ Q.drop jp → x ≤ y from fun y hy => by
       rw [List.drop_eq_getElem_cons hq] at hy
       rcases List.mem_cons.1 hy with r | r
       ·rw [r]; omega
       ·exact HY.out y r)
      obtain ⟨qv, hqv⟩ : ∃ qv, Q[jp] = qv := ⟨_, rfl⟩
      rw [hqv] at cq hlt HO2 HB2
      have hw : IntKind.i64.wrap (((jp + 1 : Nat) : Int) - 1) = (jp : Int) := by rw [IntKind.wrap_i64]; omega
      have hpos : (0 : Int) < ((jp + 1 : Nat) : Int) := by omega
      have hjpI : (jp : Int) < (nl : Int) := by omega
      have hltI : (x : Int) < (qv : Int) := by omega
      clear HO HB HY hstop hst hlt hqv
      go_wp2
      go_roundg jp
      case measure => omega
      case rel => exact ⟨_, by omega, by go_num, HO2, HY2, HB2⟩
   ·have HF := Lib.hid (show NbR T L Q from .inl ⟨k, (List.getElem?_eq_some_iff.1 HEk.out).1, (List.getElem?_eq_some_iff.1 HEk.out).2, by
     rw [HLk.out]
     have := HQ.out.1
     rwa [List.take_of_length_le (by rw [HNl.out]; omega)] at this, HQ.out.2⟩)
    have hQl : Q.length = nl := by
     have := HQ.out.1.length_eq
     rw [List.take_of_length_le (by rw [HNl.out]; omega), HNl.out] at this
     exact this
    have HOe := Lib.hid (show wr.ownsRow w.heap.size 3 1 (.slice (some ⟨g5, 0, none⟩) nl c5) nl (natV Q) by
     have := HO.out
     rwa [List.drop_of_length_le (by rw [HNl.out]; omega), List.append_nil] at this)
    have HQe := Lib.hid hQl
    clear HO HQ hQl
    go_wp2
    go_ret
    exact ⟨Q, some ⟨g5, 0, none⟩, c5, by rw [HQe.out]; rfl, by rw [HQe.out]; exact HOe.out, HF.out, HB.out⟩
 ·have HF := Lib.hid (show NbR T L [] from .inr ⟨fun hmem => by obtain ⟨k, hk, e⟩ := List.getElem_of_mem hmem; exact no k hk e, rfl⟩)
  have HO := Lib.hid (World.ownsRow_made (base := w2.heap.size) (e := 3) (size := 1) w2 #[] 0 (Nat.le_refl _) (by unfold maxLen; omega) rfl)
  have HBn := Lib.hid (B2.out.trans ((below_alloc1 w2 (.cells #[] 3)).mono B2.out.size))
  have hs2 := B2.out.size
  rw [e1]
  clear no e1
  go_wp2
  go_ret
  exact ⟨[], _, 0, rfl, own_base HO.out hs2, HF.out, HBn.out⟩
end Go.Proofs.YtmenmepdmojnfaaGreatDoor.Wg

namespace Go.Proofs.YtmenmepdmojnfaaGreatDoor.Reg
set_option linter.unusedVariables false
open Go.RowKit Go.Joins

theorem RowIn.belowB {W W' : World} {lo hi B e size n : Nat} {v : Value} {xs : List Value} (h : RowIn W lo hi e size v n xs) (hb : Below B W W') (hB : hi ≤ B) : RowIn W' lo hi e size v n xs := by
 refine ⟨⟨h.1.1, ?_⟩, h.2⟩
 rcases h.1.2 with hn | ⟨g, cap, cur, rfl, hg, hgg, rest⟩
 ·exact .inl hn
 ·refine .inr ⟨g, cap, cur, rfl, hg, ?_, rest⟩
  have h2 := h.2 g rfl
  rw [hb.block g (by omega)]
  exact hgg
def LS (w : World) (v : Value) (p : Nat) (va : Value) (lx hx n : Nat) (xs : List Value) (lw hw e size : Nat) (vw : Value) (m : Nat) (cs : List Value) (W : World) : Prop :=
 Below w.heap.size w W ∧ w.heap.size + 1 ≤ W.heap.size ∧ W.cell? ⟨w.heap.size, 0, none⟩ = some v ∧ W.cell? ⟨p, 0, none⟩ = some va ∧ (p < W.heap.size ∧ RowIn W lx hx 3 1 va n xs ∧ RowIn W lw hw e size vw m cs)
section
variable {w : World} {v : Value} {p : Nat} {va : Value} {lx hx n : Nat} {xs : List Value} {lw hw e size : Nat} {vw : Value} {m : Nat} {cs : List Value} {W W' : World}
theorem LS.rb (h : LS w v p va lx hx n xs lw hw e size vw m cs W) : RB w v W := ⟨h.1, h.2.1, h.2.2.1⟩
theorem LS.x (h : LS w v p va lx hx n xs lw hw e size vw m cs W) : RowIn W lx hx 3 1 va n xs := h.2.2.2.2.2.1
theorem LS.ans (h : LS w v p va lx hx n xs lw hw e size vw m cs W) : RowIn W lw hw e size vw m cs := h.2.2.2.2.2.2
theorem LS.on (h : LS w v p va lx hx n xs lw hw e size vw m cs W) (hb : Below W.heap.size W W') : LS w v p va lx hx n xs lw hw e size vw m cs W' := by
 obtain ⟨a, b, c⟩ := h.rb.on hb
 obtain ⟨_, _, _, d, f, g1, g2⟩ := h
 exact ⟨a, b, c, (hb.cell (by show p < _; omega)).trans d, by have := hb.size; omega, g1.on hb, g2.on hb⟩
theorem LS.drew (h : LS w v p va lx hx n xs lw hw e size vw m cs W) : LS w v p va lx hx n xs lw hw e size vw m cs W.drew := ⟨h.1.drew, h.2⟩
theorem LS.onB {B : Nat} (h : LS w v p va lx hx n xs lw hw e size vw m cs W) (hb : Below B W W') (h1 : w.heap.size + 1 ≤ B) (h2 : p < B) (h3 : hx ≤ B) (h4 : hw ≤ B) : LS w v p va lx hx n xs lw hw e size vw m cs W' := by
 obtain ⟨a, b, c⟩ := h.rb.onB hb h1
 obtain ⟨_, _, _, d, f, g1, g2⟩ := h
 exact ⟨a, b, c, (hb.cell (by show p < _; omega)).trans d, by have := hb.size; omega, g1.belowB hb h3, g2.belowB hb h4⟩
theorem LS.marked {ys : List Value} (h : LS w v p va lx hx n xs lw hw e size vw m cs W) (hr : RowIn W' lx hx 3 1 va n ys) (ha : Apart lx hx W W') (h1 : w.heap.size + 1 ≤ lx) (h2 : hx ≤ p) (h3 : hw ≤ lx) : LS w v p va lx hx n ys lw hw e size vw m cs W' := by
 obtain ⟨a, b, c, d, f, _, g2⟩ := h
 have hz := ha.size
 exact ⟨a.trans (ha.below (by omega) (by omega)), by omega, (ha.cell (by show w.heap.size < _; omega) (by show w.heap.size < _ ∨ _; omega)).trans c, (ha.cell (by show p < _; omega) (by show p < _ ∨ _ ≤ p; omega)).trans d, by omega, hr, g2.apart ha (by omega)⟩
theorem ls_start {T : TypeId} (h : RB w v W) (hx1 : RowIn W lx hx 3 1 va n xs) (hw1 : RowIn W lw hw e size vw m cs) : LS w v W.heap.size va lx hx n xs lw hw e size vw m cs (W.alloc (.cells #[va] T)) := by
 have hb := below_alloc1 W (.cells #[va] T)
 obtain ⟨a, b, c⟩ := h.on hb
 exact ⟨a, b, c, (cell_of_row _ _ 0 _ _ _ (heap_alloc_new W _)).trans rfl, by simp, hx1.on hb, hw1.on hb⟩
end
end Go.Proofs.YtmenmepdmojnfaaGreatDoor.Reg
