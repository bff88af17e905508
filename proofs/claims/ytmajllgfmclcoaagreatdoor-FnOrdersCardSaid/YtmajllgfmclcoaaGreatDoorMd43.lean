/- FlmA, DefD, FlmF, FlmC in one text. -/
import Derived.Test.YtmajllgfmclcoaaGreatDoorMd41
import Derived.Test.YtmajllgfmclcoaaGreatDoorMd42
import Derived.Lib.AppendZeros
import Derived.Deep.RegionHeld3
import Derived.Test.YtmajllgfmclcoaaGreatDoorMd09
import Derived.Test.YtmajllgfmclcoaaGreatDoorMd00
import Derived.Test.YtmajllgfmclcoaaGreatDoorMd13
import Derived.BigQuiet
import Derived.Deep.QuietTactic
import Derived.Test.YtmajllgfmclcoaaGreatDoorMd19
import Derived.OwnWalk
import Derived.Laws.OwnMore
set_option linter.unusedVariables false
set_option linter.unusedSimpArgs false
set_option maxRecDepth 100000
namespace Go.Proofs.YtmajllgfmclcoaaGreatDoor.Flp
open Go.RowKit Base Dom Dms Til Go.Joins
open Reg (own_below own_base)
def FlPost (M : List Dm) (b : Bool) (w : World) (e : Ending) (w' : World) : Prop :=
 ∃ A cap, e = .returned (.tuple #[.slice A M.length cap, .bool b]) ∧ M.length ≤ cap ∧ w'.ownsRow w.heap.size 63 3 (.slice A M.length cap) M.length (rowM M) ∧ Below w.heap.size w w'
theorem rowM_news {w : World} {b off : Nat} {L : List Dm} (h : ∀ j, (hj : j < L.length) → w.cell? ⟨b, off + j * 3, none⟩ = some (.int .i64 L[j].1) ∧ w.cell? ⟨b, off + j * 3 + 1, none⟩ = some (.int .i64 L[j].2.1) ∧ w.cell? ⟨b, off + j * 3 + 2, none⟩ = some (.bool L[j].2.2)) :
  ∀ j u, (rowM L)[j]? = some u → w.cell? ((⟨b, off, none⟩ : Addr).add j) = some u := by
 intro j u hu
 have hj := (List.getElem?_eq_some_iff.1 hu).1
 rw [rowM_length] at hj
 obtain ⟨a0, a1, a2⟩ := rowM_at L _ _ (List.getElem?_eq_getElem (l := L) (i := j / 3) (by omega))
 obtain ⟨c0, c1, c2⟩ := h (j / 3) (by omega)
 rw [add_none]
 have hc : j = j / 3 * 3 ∨ j = j / 3 * 3 + 1 ∨ j = j / 3 * 3 + 2 := by omega
 rcases hc with e | e | e
 ·rw [e, a0] at hu
  rw [show off + j = off + j / 3 * 3 by omega, c0]; exact hu
 ·rw [e, a1] at hu
  rw [show off + j = off + j / 3 * 3 + 1 by omega, c1]; exact hu
 ·rw [e, a2] at hu
  rw [show off + j = off + j / 3 * 3 + 2 by omega, c2]; exact hu
theorem wpList_copy (w : World) {ops : Array Oper} {rest : List Oper} {o : Oper} {a : Act} {Q : Exit → Act → World → Prop} (hgd : o.guard = none) (s x : Operand)
  (ho : o.op = .call { callee := .builtin .append, args := #[s, x], argTypes := #[27, 27] })
  (base g c : Nat) (hs : a.eval s = .slice (some ⟨g, 0, none⟩) 0 c) (hown : w.ownsRow base 63 3 (.slice (some ⟨g, 0, none⟩) 0 c) 0 [])
  (A : Option Addr) (n cap B : Nat) (L : List Dm) (hL : L.length = n) (hn : (n : Int) ≤ 1048576) (hx : a.eval x = .slice A n cap) (hr : RowM w B A L) (hbase : base ≤ w.heap.size)
  (h : ∀ g' cap' w', n ≤ cap' → w'.ownsRow base 63 3 (.slice (some ⟨g', 0, none⟩) n cap') n (rowM L) → (∀ B0 W0, Below B0 W0 w → B0 ≤ w.heap.size → B0 ≤ base → Below B0 W0 w') → wpList Tryz.prog ops Q rest (a.put o.dst (.slice (some ⟨g', 0, none⟩) n cap')) w') : wpList Tryz.prog ops Q (o :: rest) a w := by
 obtain ⟨i0, hi, hz0, hz1, hz2⟩ := info_parts domInfo
 rcases Nat.eq_zero_or_pos n with h0 | h0
 ·subst h0
  have hL0 := List.eq_nil_of_length_eq_zero hL
  subst hL0
  refine Go.Lib.wpList_append_run w hgd s x _ _ ho _ _ hs hx (.slice (some ⟨g, 0, none⟩) 0 c) w ?_ (h g c w (Nat.zero_le _) hown (fun B0 W0 h _ _ => h))
  cases A <;> simp [Builtin.append_, run_underlying Tryz.underlying27, sizeOf, typeInfo, hi, Builtin.lenOf, Builtin.firstCells, loadCells, loadCellsFrom, storeCells]
 ·obtain ⟨b, off, hA, hc⟩ := hr.at
  obtain ⟨rfl, hb⟩ := hA (by omega)
  refine wpList_append_any w hgd s x 27 ho base 63 i0 (.agg #[.int .i64 0, .int .i64 0, .bool false]) 3 24 Tryz.underlying27 hi hz0 hz1 hz2 rfl (by decide) g 0 c [] hs hown ⟨b, off, none⟩ n cap (rowM L) hx (by rw [rowM_length, hL]) (rowM_news hc) (rowM_one L) (by unfold maxLen; omega) (by omega) hbase ?_
  intro g' cap' w' k1 k2 k3 k4
  rw [Nat.zero_add, List.nil_append] at k1
  rw [Nat.zero_add]
  have hg := hown.lt g rfl
  refine h g' cap' w' ?_ k1 (fun B0 W0 hb hB hB2 => hb.grown k2 hB (fun g2 hg2 => by injection hg2 with hg2; omega))
  rcases k1.2 with ⟨q, _⟩ | ⟨g2, cap2, cur, q, _, _, q1, _⟩
  ·cases q
  ·injection q with _ _ qc
   subst qc; exact q1
theorem neD_run {x y : Int} {b : Bool} {u v : Int} {c : Bool} (hne : ¬ (x = u ∧ y = v ∧ b = c)) (a : Act) (o : Oper) (t1 t2 : Operand) (w' : World)
  (ho : o.op = .binOp .neq 63 t1 t2 63) (h1 : a.eval t1 = .agg #[.int .i64 x, .int .i64 y, .bool b]) (h2 : a.eval t2 = .agg #[.int .i64 u, .int .i64 v, .bool c]) :
  (execOp a.eval o).run Tryz.prog w' = .ok (.value (.bool true)) w' := by
 unfold execOp
 rw [ho]
 simp only [h1, h2]
 by_cases hxu : x = u
 ·subst hxu
  by_cases hyv : y = v
  ·subst hyv
   cases b <;> cases c
   ·exact absurd ⟨rfl, rfl, rfl⟩ hne
   ·clear hne ho h1 h2; go_simp
   ·clear hne ho h1 h2; go_simp
   ·exact absurd ⟨rfl, rfl, rfl⟩ hne
  ·clear hne ho h1 h2; go_simp
 ·clear hne ho h1 h2; go_simp
theorem oth_two {L : List Dm} {x y : Int} {b : Bool} (h : has2 L x y b = true) : (oth L x y b).length + 2 ≤ L.length := by
 obtain ⟨h1, h2⟩ := has2_iff.1 h
 have hne : pr1 x y b ≠ pr2 x y b := by
  unfold pr1 pr2; cases b
  ·rw [if_neg (by simp)]; intro e; injection e with _ e; injection e with e _; omega
  ·rw [if_pos rfl]; intro e; injection e with e _; omega
 have e : oth L x y b = (L.filter fun d => decide (d ≠ pr2 x y b)).filter fun d => decide (d ≠ pr1 x y b) := by
  unfold oth; rw [List.filter_filter]
 have l1 : (L.filter fun d => decide (d ≠ pr2 x y b)).length < L.length := List.length_filter_lt_length_iff_exists.2 ⟨_, h2, by simp⟩
 have l2 : ((L.filter fun d => decide (d ≠ pr2 x y b)).filter fun d => decide (d ≠ pr1 x y b)).length < (L.filter fun d => decide (d ≠ pr2 x y b)).length :=
  List.length_filter_lt_length_iff_exists.2 ⟨pr1 x y b, List.mem_filter.2 ⟨h1, decide_eq_true hne⟩, by simp⟩
 rw [e]; omega
def othTo (L : List Dm) (d f : Dm) (k : Nat) : List Dm := (L.take k).filter fun p => decide (p ≠ d) && decide (p ≠ f)
theorem othTo_yes {L : List Dm} {d f : Dm} {k : Nat} (hk : k < L.length) (h1 : L[k] ≠ d) (h2 : L[k] ≠ f) : othTo L d f (k + 1) = othTo L d f k ++ [L[k]] := by
 unfold othTo; rw [List.take_succ_eq_append_getElem hk, List.filter_append, List.filter_cons, if_pos (by rw [decide_eq_true h1, decide_eq_true h2]; rfl)]; rfl
theorem othTo_no {L : List Dm} {d f : Dm} {k : Nat} (hk : k < L.length) (h : L[k] = d ∨ L[k] = f) : othTo L d f (k + 1) = othTo L d f k := by
 unfold othTo; rw [List.take_succ_eq_append_getElem hk, List.filter_append, List.filter_cons, if_neg (by rcases h with h | h <;> simp [h]), List.filter_nil, List.append_nil]
theorem othTo_le (L : List Dm) (d f : Dm) (k : Nat) : (othTo L d f k).length ≤ k := by
 unfold othTo; exact Nat.le_trans (List.length_filter_le _ _) (by rw [List.length_take]; omega)
theorem dm_ne {x y u v : Int} {b c : Bool} (h : ¬ (x = u ∧ y = v ∧ b = c)) : ((x, y, b) : Dm) ≠ (u, v, c) := fun e => by injection e with e1 e; injection e with e2 e3; exact h ⟨e1, e2, e3⟩
set_option maxHeartbeats 4000000 in
theorem sFlipAt_yes (w : World) (A : Option Addr) (n cap B : Nat) (L : List Dm) (hL : L.length = n) (hn : (n : Int) ≤ 1048576) (h : RowM w B A L) (hB : B ≤ w.heap.size) (x y : Int) (hk : kindN L x y ≠ 0) :
  Calls Tryz.prog 56 #[.slice A n cap, .agg #[.int .i64 x, .int .i64 y]] w (FlPost (flipL L x y) true w) := by
 obtain ⟨i0, hi, hz0, hz1, hz2⟩ := info_parts domInfo
 obtain ⟨h6, h2⟩ := kind_is hk
 have hle := kind_le L x y
 have hflip := flip_yes hk
 have hlen := oth_two h2
 have HP := Lh (fun b W => sPair x y h6 b W)
 have HK := Lh (fun W (hb : Below w.heap.size w W) => sKind W A n cap B L hL (by omega) (h.below hb hB) (by have := hb.size; omega) x y)
 generalize kindN L x y = kk at hk hle hflip HK hlen
 have hb2 : (((kk : Nat) : Int) == 2) = decide (kk = 2) := by rw [Bool.eq_iff_iff, beq_iff_eq, decide_eq_true_eq]; omega
 have hb1 : (((kk : Nat) : Int) == 1) = !decide (kk = 2) := by
  rw [Bool.eq_iff_iff, beq_iff_eq, Bool.not_eq_true', decide_eq_false_iff_not]; omega
 have hk0 : (((kk : Nat) : Int) == 0) = false := by rw [beq_eq_false_iff_ne]; omega
 generalize decide (kk = 2) = bb at hb1 hb2 hflip hlen
 have HP1 := Lh (HP.out bb)
 have HP2 := Lh (HP.out (!bb))
 have e3 : flipL L x y = sortM (pr1 x y (!bb) :: pr2 x y (!bb) :: othTo L (pr1 x y bb) (pr2 x y bb) n) := by rw [hflip]; unfold turn oth othTo; rw [← hL, List.take_length]
 have e4 : (othTo L (pr1 x y bb) (pr2 x y bb) n).length + 2 ≤ n := by
  have : othTo L (pr1 x y bb) (pr2 x y bb) n = oth L x y bb := by unfold oth othTo; rw [← hL, List.take_length]
  rw [this, ← hL]; exact hlen
 rw [e3]
 generalize pr1 x y bb = D1 at HP1 e4 ⊢
 generalize pr2 x y bb = D2 at HP1 e4 ⊢
 generalize pr1 x y (!bb) = D3 at HP2 ⊢
 generalize pr2 x y (!bb) = D4 at HP2 ⊢
 have T0 := Lh (cb_start x y w)
 have HE4 := Lh e4
 obtain ⟨S, hS⟩ : ∃ S, sortM (D3 :: D4 :: othTo L D1 D2 n) = S := ⟨_, rfl⟩
 rw [hS]
 have HSS := Lh hS
 clear hS
 obtain ⟨b0, off, hA, hc⟩ := h.at
 have HA := Lh hA
 have HC := Lh hc
 have HL := Lh hL
 have HB := Lh hB
 clear hA hc hL h hB h2 h6 hle hflip hlen HP e3 e4 hk
 go_enter Tryz.func56, Tryz.ntmps56
 go_wp2_with fail
 refine (HK.out _ T0.out.1).mono ?_
 rintro e w1 ⟨rfl, hb1'⟩
 have T1 := T0.out.on hb1'
 have c0 := T1.2.c0
 have c1 := T1.2.c1
 clear T0 hb1' HK
 go_wp2_with fail
 refine (HP1.out _).mono ?_
 rintro e w2 ⟨rfl, hb2'⟩
 have T2 := T1.on hb2'
 obtain ⟨u1, v1, a1⟩ := D1
 obtain ⟨u2, v2, a2⟩ := D2
 clear T1 hb2' HP1 c0 c1
 go_upto_region 5 with fail
 obtain ⟨k1, k2, k3⟩ := at3_two 63 w2 u1 v1 a1 u2 v2 a2
 have T3 := T2.on k3
 have hT2 := T2.1.size
 generalize (w2.alloc (.cells #[.int .i64 u1, .int .i64 v1, .bool a1] 63)).alloc (.cells #[.int .i64 u2, .int .i64 v2, .bool a2] 63) = W3 at k1 k2 T3 ⊢
 generalize w2.heap.size + 1 = q2 at k2 ⊢
 generalize w2.heap.size = q1 at k1 hT2 ⊢
 have c0 := T3.2.c0
 have c1 := T3.2.c1
 clear T2 k3 hT2
 go_wp2_with fail
 refine (HP2.out _).mono ?_
 rintro e w4 ⟨rfl, hb4⟩
 have T4 := T3.on hb4
 have K1 := At3.on k1 hb4
 have K2 := At3.on k2 hb4
 obtain ⟨u3, v3, a3⟩ := D3
 obtain ⟨u4, v4, a4⟩ := D4
 clear T3 k1 k2 hb4 HP2 c0 c1
 go_upto_region 6 with fail
 obtain ⟨k3, k4, k5⟩ := at3_two 63 w4 u3 v3 a3 u4 v4 a4
 have K1 := At3.on K1 k5
 have K2 := At3.on K2 k5
 have T5 := T4.1.trans (k5.mono T4.1.size)
 generalize (w4.alloc (.cells #[.int .i64 u3, .int .i64 v3, .bool a3] 63)).alloc (.cells #[.int .i64 u4, .int .i64 v4, .bool a4] 63) = W5 at k3 k4 K1 K2 T5 ⊢
 have c0 := At3.c0 k3
 have c1 := At3.c1 k3
 have c2 := At3.c2 k3
 have d0 := At3.c0 k4
 have d1 := At3.c1 k4
 have d2 := At3.c2 k4
 have hO5 := World.ownsRow_lit (base := W5.heap.size) (e := 63) (size := 3) W5 #[.int .i64 u3, .int .i64 v3, .bool a3, .int .i64 u4, .int .i64 v4, .bool a4] 2 NR (by unfold maxLen; omega) rfl
 have hB5 := below_alloc1 W5 (.cells #[.int .i64 u3, .int .i64 v3, .bool a3, .int .i64 u4, .int .i64 v4, .bool a4] 63)
 have HO5 := Lh hO5
 have HB5 := Lh hB5
 have HK1 := Lh K1
 have HK2 := Lh K2
 have HT5 := Lh T5
 clear k3 k4 k5 T4 hO5 hB5 K1 K2 T5
 go_wp2_with fail
 clear c0 c1 c2 d0 d1 d2
 go_loopw [11, 12] (fun s i wr => ∃ k m : Nat, k ≤ n ∧ i = .int .i64 k ∧ m = 2 + (othTo L (u1, v1, a1) (u2, v2, a2) k).length ∧ wr.ownsRow W5.heap.size 63 3 s m (rowM ((u3, v3, a3) :: (u4, v4, a4) :: othTo L (u1, v1, a1) (u2, v2, a2) k)) ∧ Below W5.heap.size W5 wr) (fun _ i _ => n - (intOf i).toNat)
 case atStart => exact ⟨0, 2, Nat.zero_le _, rfl, rfl, HO5.out, HB5.out⟩
 case round =>
  clear HO5 HB5
  obtain ⟨k, m, hk, rfl, hm, hown, hb⟩ := hrel
  have hm2 : m ≤ k + 2 := by have := othTo_le L (u1, v1, a1) (u2, v2, a2) k; omega
  obtain ⟨Ag, cg, rfl⟩ := own_shape hown
  have hbs := hb.size
  have hb0 := HT5.out.trans (hb.mono HT5.out.size)
  by_cases hlt : k < n
  ·have hkL : k < L.length := by rw [HL.out]; exact hlt
   obtain ⟨rfl, hbB⟩ := HA.out (by omega)
   obtain ⟨e0, e1, e2⟩ := HC.out k hkL
   have hbw : b0 < w.heap.size := by have := HB.out; omega
   have HCk := Lh (fun W (q : Below w.heap.size w W) => (show _ ∧ _ ∧ _ from ⟨(q.cell (p := ⟨b0, off + k * 3, none⟩) hbw).trans e0, (q.cell (p := ⟨b0, off + k * 3 + 1, none⟩) hbw).trans e1, (q.cell (p := ⟨b0, off + k * 3 + 2, none⟩) hbw).trans e2⟩))
   have HY := Lh (fun h1 h2 => othTo_yes (d := (u1, v1, a1)) (f := (u2, v2, a2)) hkL h1 h2)
   have HN := Lh (fun h => othTo_no (d := (u1, v1, a1)) (f := (u2, v2, a2)) hkL h)
   generalize L[k] = p at HCk HY HN
   obtain ⟨u, v, a⟩ := p
   obtain ⟨c0, c1, c2⟩ := HCk.out _ hb0.drew
   have K1 := At3.on HK1.out hb.drew
   have K2 := At3.on HK2.out hb.drew
   have HO := Lh hown
   have HBw := Lh hb
   have HM := Lh hm
   clear e0 e1 e2 hown hb hm
   simp only at c0 c1 c2
   by_cases s1 : u = u1 ∧ v = v1 ∧ a = a1
   ·have HE := Lh (HN.out (.inl (by obtain ⟨rfl, rfl, rfl⟩ := s1; rfl)))
    have HN2 := Lh (show m = 2 + (othTo L (u1, v1, a1) (u2, v2, a2) (k + 1)).length by rw [HE.out]; exact HM.out)
    obtain ⟨rfl, rfl, rfl⟩ := s1
    have HO2 := Lh (show wr.drew.ownsRow W5.heap.size 63 3 (.slice Ag m cg) m _ from HO.out)
    have HB2 := Lh HBw.out.drew
    clear HY HN HO HBw HM
    go_wp2_with fail
    refine wp_region_noPanic ?_
    refine wp_region_held_drew (S := (fun w' => w'.cell? ⟨b0, off + k * 3, none⟩ = some (.int .i64 u) ∧ w'.cell? ⟨b0, off + k * 3 + 1, none⟩ = some (.int .i64 v) ∧ w'.cell? ⟨b0, off + k * 3 + 2, none⟩ = some (.bool a) ∧ w'.cell? ⟨q1, 0, none⟩ = some (.int .i64 u) ∧ w'.cell? ⟨q1, 1, none⟩ = some (.int .i64 v) ∧ w'.cell? ⟨q1, 2, none⟩ = some (.bool a) ∧ w'.cell? ⟨q2, 0, none⟩ = some (.int .i64 u2) ∧ w'.cell? ⟨q2, 1, none⟩ = some (.int .i64 v2) ∧ w'.cell? ⟨q2, 2, none⟩ = some (.bool a2))) (by kernel_rfl) (⟨c0, c1, c2, At3.c0 K1, At3.c1 K1, At3.c2 K1, At3.c0 K2, At3.c1 K2, At3.c2 K2⟩) (fun hHeld => ?_)
    refine tk 0 ?_; try simp only [Act.put, zk]
    refine tk 1 ?_; try simp only [Act.put, zk]
    refine tk 2 ?_; try simp only [Act.put, zk]
    refine tk 3 ?_; try simp only [Act.put, zk]
    refine tk 4 ?_; try simp only [Act.put, zk]
    refine tk 5 ?_; try simp only [Act.put, zk]
    refine tk 6 ?_; try simp only [Act.put, zk]
    refine tu 7 ?_; try simp only [Act.put, zk]
    refine tu 8 ?_; try simp only [Act.put, zk]
    refine tu 9 ?_; try simp only [Act.put, zk]
    refine tu 10 ?_; try simp only [Act.put, zk]
    refine tu 11 ?_; try simp only [Act.put, zk]
    refine tu 12 ?_; try simp only [Act.put, zk]
    refine tk 13 ?_; try simp only [Act.put, zk]
    refine wpAnyH_done (by kernel_rfl) (NoPanic.normal ?_) _
    go_wp2
    go_roundw
    case rel => exact ⟨k + 1, m, by omega, by go_num, HN2.out, by rw [HE.out]; exact HO2.out, HB2.out⟩
    case measure => (simp [intOf] <;> omega)
   ·have HR1 := Lh (fun a' o t1 t2 w' => neD_run s1 a' o t1 t2 w')
    have hne1 := dm_ne s1
    by_cases s2 : u = u2 ∧ v = v2 ∧ a = a2
    ·have HE := Lh (HN.out (.inr (by obtain ⟨rfl, rfl, rfl⟩ := s2; rfl)))
     have HN2 := Lh (show m = 2 + (othTo L (u1, v1, a1) (u2, v2, a2) (k + 1)).length by rw [HE.out]; exact HM.out)
     obtain ⟨rfl, rfl, rfl⟩ := s2
     have HO2 := Lh (show wr.drew.ownsRow W5.heap.size 63 3 (.slice Ag m cg) m _ from HO.out)
     have HB2 := Lh HBw.out.drew
     clear HY HN HO HBw HM s1 hne1
     go_wp2_with fail
     refine wp_region_noPanic ?_
     refine wp_region_held_drew (S := (fun w' => w'.cell? ⟨b0, off + k * 3, none⟩ = some (.int .i64 u) ∧ w'.cell? ⟨b0, off + k * 3 + 1, none⟩ = some (.int .i64 v) ∧ w'.cell? ⟨b0, off + k * 3 + 2, none⟩ = some (.bool a) ∧ w'.cell? ⟨q1, 0, none⟩ = some (.int .i64 u1) ∧ w'.cell? ⟨q1, 1, none⟩ = some (.int .i64 v1) ∧ w'.cell? ⟨q1, 2, none⟩ = some (.bool a1) ∧ w'.cell? ⟨q2, 0, none⟩ = some (.int .i64 u) ∧ w'.cell? ⟨q2, 1, none⟩ = some (.int .i64 v) ∧ w'.cell? ⟨q2, 2, none⟩ = some (.bool a))) (by kernel_rfl) (⟨c0, c1, c2, At3.c0 K1, At3.c1 K1, At3.c2 K1, At3.c0 K2, At3.c1 K2, At3.c2 K2⟩) (fun hHeld => ?_)
     refine tk 0 ?_; try simp only [Act.put, zk]
     refine tk 1 ?_; try simp only [Act.put, zk]
     refine tk 2 ?_; try simp only [Act.put, zk]
     refine tk 3 ?_; try simp only [Act.put, zk]
     refine tk 4 ?_; try simp only [Act.put, zk]
     refine wpAnyH_take (i := 5) (v := .bool true) rfl (by kernel_rfl) (by kernel_rfl) (by kernel_rfl) (fun _ _ _ h => h) (Or.inl ⟨by rfl, fun w' hS => HR1.out _ _ _ _ w' rfl (by kernel_rfl) (by kernel_rfl)⟩) (by assumption) ?_
     try simp only [Act.put, zk]
     refine tk 6 ?_; try simp only [Act.put, zk]
     refine tk 7 ?_; try simp only [Act.put, zk]
     refine tk 8 ?_; try simp only [Act.put, zk]
     refine tk 9 ?_; try simp only [Act.put, zk]
     refine tk 10 ?_; try simp only [Act.put, zk]
     refine tk 11 ?_; try simp only [Act.put, zk]
     refine tk 12 ?_; try simp only [Act.put, zk]
     refine tk 13 ?_; try simp only [Act.put, zk]
     refine wpAnyH_done (by kernel_rfl) (NoPanic.normal ?_) _
     go_wp2
     go_roundw
     case rel => exact ⟨k + 1, m, by omega, by go_num, HN2.out, by rw [HE.out]; exact HO2.out, HB2.out⟩
     case measure => (simp [intOf] <;> omega)
    ·have HR2 := Lh (fun a' o t1 t2 w' => neD_run s2 a' o t1 t2 w')
     have HE := Lh (HY.out hne1 (dm_ne s2))
     have HO2 := Lh (show wr.drew.ownsRow W5.heap.size 63 3 (.slice Ag m cg) m _ from HO.out)
     have HB2 := Lh HBw.out.drew
     clear HY HN HO HBw s1 s2 hne1
     go_wp2_with fail
     refine wp_region_noPanic ?_
     refine wp_region_held_drew (S := (fun w' => w'.cell? ⟨b0, off + k * 3, none⟩ = some (.int .i64 u) ∧ w'.cell? ⟨b0, off + k * 3 + 1, none⟩ = some (.int .i64 v) ∧ w'.cell? ⟨b0, off + k * 3 + 2, none⟩ = some (.bool a) ∧ w'.cell? ⟨q1, 0, none⟩ = some (.int .i64 u1) ∧ w'.cell? ⟨q1, 1, none⟩ = some (.int .i64 v1) ∧ w'.cell? ⟨q1, 2, none⟩ = some (.bool a1) ∧ w'.cell? ⟨q2, 0, none⟩ = some (.int .i64 u2) ∧ w'.cell? ⟨q2, 1, none⟩ = some (.int .i64 v2) ∧ w'.cell? ⟨q2, 2, none⟩ = some (.bool a2))) (by kernel_rfl) (⟨c0, c1, c2, At3.c0 K1, At3.c1 K1, At3.c2 K1, At3.c0 K2, At3.c1 K2, At3.c2 K2⟩) (fun hHeld => ?_)
     refine tk 0 ?_; try simp only [Act.put, zk]
     refine tk 1 ?_; try simp only [Act.put, zk]
     refine tk 2 ?_; try simp only [Act.put, zk]
     refine tk 3 ?_; try simp only [Act.put, zk]
     refine tk 4 ?_; try simp only [Act.put, zk]
     refine wpAnyH_take (i := 5) (v := .bool true) rfl (by kernel_rfl) (by kernel_rfl) (by kernel_rfl) (fun _ _ _ h => h) (Or.inl ⟨by rfl, fun w' hS => HR1.out _ _ _ _ w' rfl (by kernel_rfl) (by kernel_rfl)⟩) (by assumption) ?_
     try simp only [Act.put, zk]
     refine tk 6 ?_; try simp only [Act.put, zk]
     refine tk 7 ?_; try simp only [Act.put, zk]
     refine tk 8 ?_; try simp only [Act.put, zk]
     refine tk 9 ?_; try simp only [Act.put, zk]
     refine tk 10 ?_; try simp only [Act.put, zk]
     refine tk 11 ?_; try simp only [Act.put, zk]
     refine wpAnyH_take (i := 12) (v := .bool true) rfl (by kernel_rfl) (by kernel_rfl) (by kernel_rfl) (fun _ _ _ h => h) (Or.inl ⟨by rfl, fun w' hS => HR2.out _ _ _ _ w' rfl (by kernel_rfl) (by kernel_rfl)⟩) (by assumption) ?_
     try simp only [Act.put, zk]
     refine tk 13 ?_; try simp only [Act.put, zk]
     refine wpAnyH_done (by kernel_rfl) (NoPanic.normal ?_) _
     generalize wr.drew = W6 at c0 c1 c2 HO2 HB2 hb0 ⊢
     have hs6 := HB2.out.size
     go_wp2_with (first
      | (at_builtin; refine wpList_append_own _ rfl _ _ 27 rfl W5.heap.size 63 i0 (.agg #[.int .i64 0, .int .i64 0, .bool false]) 3 24 Tryz.underlying27 hi hz0 hz1 hz2 rfl (by decide) _ m (rowM ((u3, v3, a3) :: (u4, v4, a4) :: othTo L (u1, v1, a1) (u2, v2, a2) k)) rfl (HO2.out.alloc _) ⟨W6.heap.size, 0, none⟩ 1 1 [.int .i64 u, .int .i64 v, .bool a] rfl rfl (World.news_of_block (cs := #[.int .i64 u, .int .i64 v, .bool a]) (t := 63) (fr := (0, 0)) (heap_alloc_new W6 _)) (by simp [Value.oneCell']) (by unfold maxLen; omega) (by omega) (by simp; omega) ?_; intro vr w3 hown3 hgrow _))
     have hb3 : Below W5.heap.size W5 w3 := (HB2.out.alloc (by omega) _).grown hgrow (by simp; omega) (fun g hg => (HO2.out.lt g hg).1)
     have R := Lh (show w3.ownsRow W5.heap.size 63 3 vr (m + 1) (rowM ((u3, v3, a3) :: (u4, v4, a4) :: othTo L (u1, v1, a1) (u2, v2, a2) (k + 1))) by
      rw [HE.out, ← List.cons_append, ← List.cons_append, rowM_snoc]; exact hown3)
     have HN2 := Lh (show m + 1 = 2 + (othTo L (u1, v1, a1) (u2, v2, a2) (k + 1)).length by rw [HE.out, List.length_append, HM.out]; rfl)
     clear hown3 hgrow
     go_wp2
     go_roundw
     case rel => exact ⟨k + 1, m + 1, by omega, by go_num, HN2.out, R.out, hb3⟩
     case measure => (simp [intOf] <;> omega)
  ·obtain rfl : k = n := by omega
   have hmk : m ≤ k := by have := HE4.out; omega
   have hq := sSortDominoes wr Ag m cg wr.heap.size ((u3, v3, a3) :: (u4, v4, a4) :: othTo L (u1, v1, a1) (u2, v2, a2) k) (by rw [hm]; simp; omega) (by omega) (rowM_own hown) NR
   rw [HSS.out] at hq
   have HS := Lh hq
   have HB0 := Lh hb0
   clear hown hb hm hq
   go_wp2_with fail
   refine HS.out.mono ?_
   rintro e w7 ⟨A7, c7, rfl, hc7, hown7, hb7⟩
   have HO7 := Lh hown7
   have HB7 := Lh (HB0.out.trans (hb7.mono HB0.out.size))
   clear hown7 hb7 HS
   go_wp2
   exact bodyPost_ret (v := .tuple #[.slice A7 S.length c7, .bool true]) (by simp [results, Tryz.results56, go_sem]) rfl ⟨A7, c7, rfl, hc7, own_base HO7.out (HB0.out.size), HB7.out⟩
set_option maxHeartbeats 1000000 in
theorem sFlipAt_no (w : World) (A : Option Addr) (n cap B : Nat) (L : List Dm) (hL : L.length = n) (hn : (n : Int) ≤ 1048576) (h : RowM w B A L) (hB : B ≤ w.heap.size) (x y : Int) (hk : kindN L x y = 0) :
  Calls Tryz.prog 56 #[.slice A n cap, .agg #[.int .i64 x, .int .i64 y]] w (FlPost L false w) := by
 have HK := Lh (fun W (hb : Below w.heap.size w W) => sKind W A n cap B L hL (by omega) (h.below hb hB) (by have := hb.size; omega) x y)
 rw [hk] at HK
 have T0 := Lh (cb_start x y w)
 have HR := Lh (fun W (hb : Below w.heap.size w W) => h.below hb hB)
 have HLn := Lh hL
 clear hk hL h hB
 go_enter Tryz.func56, Tryz.ntmps56
 go_wp2_with fail
 refine (HK.out _ T0.out.1).mono ?_
 rintro e w1 ⟨rfl, hb1⟩
 have T1 := T0.out.on hb1
 have HB1 := Lh T1.1
 have HM := Lh (World.ownsRow_made (base := w1.heap.size) (e := 63) (size := 3) w1 #[] 0 NR (by unfold maxLen; omega) rfl)
 have hs1 := T1.1.size
 clear T0 hb1 HK T1
 go_wp2_with (first
  | (at_builtin; refine wpList_copy _ rfl _ _ rfl w1.heap.size w1.heap.size 0 rfl HM.out A n cap _ L HLn.out hn rfl (HR.out _ (HB1.out.alloc hs1 _)) (by simp) ?_; intro g' c' w2 hc hown hbw))
 have HO := Lh (own_base hown hs1)
 have HB2 := Lh (hbw _ _ (HB1.out.alloc hs1 _) (by simp; omega) hs1)
 clear hown hbw
 go_wp2
 refine bodyPost_ret (v := .tuple #[.slice (some ⟨g', 0, none⟩) n c', .bool false]) (by simp [results, Tryz.results56, go_sem]) rfl ?_
 rw [← HLn.out] at hc HO ⊢
 exact ⟨_, c', rfl, hc, HO.out, HB2.out⟩
theorem sFlipAt (w : World) (A : Option Addr) (n cap B : Nat) (L : List Dm) (hL : L.length = n) (hn : (n : Int) ≤ 1048576) (h : RowM w B A L) (hB : B ≤ w.heap.size) (x y : Int) :
  Calls Tryz.prog 56 #[.slice A n cap, .agg #[.int .i64 x, .int .i64 y]] w (FlPost (flipL L x y) (canB L x y) w) := by
 by_cases hk : kindN L x y = 0
 ·rw [flip_no hk, show canB L x y = false by unfold canB; rw [hk]; rfl]
  exact sFlipAt_no w A n cap B L hL hn h hB x y hk
 ·rw [show canB L x y = true from decide_eq_true (by omega)]
  exact sFlipAt_yes w A n cap B L hL hn h hB x y hk
end Go.Proofs.YtmajllgfmclcoaaGreatDoor.Flp
namespace Go.Proofs.YtmajllgfmclcoaaGreatDoor.Def
open Go.RowKit Go.Joins
theorem getD_at {L : List (Int × Int)} {k : Nat} (hk : k < L.length) : L.getD k (0, 0) = L[k] := by simp [List.getD, hk]
end Go.Proofs.YtmajllgfmclcoaaGreatDoor.Def
namespace Go.Proofs.YtmajllgfmclcoaaGreatDoor.Flp
open Go.RowKit Dms Til Go.Joins
open Reg (own_below own_base)
theorem flip_len (L : List Dm) (x y : Int) : (flipL L x y).length ≤ L.length := by
 by_cases hk : kindN L x y = 0
 ·rw [flip_no hk]; exact Nat.le_refl _
 ·rw [flip_yes hk]
  have h := oth_two (kind_is hk).2
  have := sortM_length (pr1 x y (!decide (kindN L x y = 2)) :: pr2 x y (!decide (kindN L x y = 2)) :: oth L x y (decide (kindN L x y = 2)))
  unfold turn
  simp only [List.length_cons] at this
  omega
end Go.Proofs.YtmajllgfmclcoaaGreatDoor.Flp
namespace Go.Proofs.YtmajllgfmclcoaaGreatDoor.Flp
open Go.RowKit Base Go.Proofs.YtmajllgfmclcoaaGreatDoor.Cell Cels Dom Dms Go.Joins
open Reg (at_nat own_below own_base)
def flipsTo (L : List Dm) (k : Nat) : List (Int × Int) := ((List.range k).filter fun k => canB L ((k % 8 : Nat) : Int) ((k / 8 : Nat) : Int)).map fun k => (((k % 8 : Nat) : Int), ((k / 8 : Nat) : Int))
theorem flipsTo_all (L : List Dm) : flipsTo L 64 = flipsR L := rfl
theorem flipsTo_length (L : List Dm) (k : Nat) : (flipsTo L k).length ≤ k := by
 unfold flipsTo; rw [List.length_map]; exact Nat.le_trans (List.length_filter_le _ _) (by rw [List.length_range]; exact Nat.le_refl _)
theorem flipsTo_yes {L : List Dm} {k : Nat} (h : canB L ((k % 8 : Nat) : Int) ((k / 8 : Nat) : Int) = true) : flipsTo L (k + 1) = flipsTo L k ++ [(((k % 8 : Nat) : Int), ((k / 8 : Nat) : Int))] := by
 unfold flipsTo; rw [List.range_succ, List.filter_append, List.map_append, List.filter_cons, if_pos h]; rfl
theorem flipsTo_no {L : List Dm} {k : Nat} (h : canB L ((k % 8 : Nat) : Int) ((k / 8 : Nat) : Int) = false) : flipsTo L (k + 1) = flipsTo L k := by
 unfold flipsTo; rw [List.range_succ, List.filter_append, List.map_append, List.filter_cons, if_neg (by rw [h]; simp), List.filter_nil, List.map_nil, List.append_nil]
set_option maxHeartbeats 2000000 in
theorem sFlipsOf (w : World) (A : Option Addr) (n cap B : Nat) (L : List Dm) (hL : L.length = n) (hn : (n : Int) ≤ 9223372036854775807) (h : RowM w B A L) (hB : B ≤ w.heap.size) :
  Calls Tryz.prog 55 #[.slice A n cap] w (NbPost (flipsR L) w) := by
 obtain ⟨i0, hi, hz0, hz1, hz2⟩ := info_parts cellInfo
 have HM := Lh (World.ownsRow_made (e := 79) (size := 2) w #[] 0 NR (by unfold maxLen; omega) rfl)
 have HKd := Lh (fun W (hb : Below w.heap.size w W) x y => sKind W A n cap B L hL hn (h.below hb hB) (by have := hb.size; omega) x y)
 clear hL h hB
 go_enter Tryz.func55, Tryz.ntmps55
 go_wp2_with fail
 have HW1 := Lh (below_alloc1 w (.cells #[] 79))
 go_loopw [3, 4] (fun v i wr => ∃ k : Nat, k ≤ 64 ∧ i = .int .i64 k ∧ wr.ownsRow w.heap.size 79 2 v (flipsTo L k).length (rowC (flipsTo L k)) ∧ Below w.heap.size w wr) (fun _ i _ => 64 - (intOf i).toNat)
 case atStart => exact ⟨0, Nat.zero_le _, rfl, by simpa [flipsTo, rowC] using HM.out, HW1.out⟩
 case round =>
  clear HW1 HM
  obtain ⟨k, hk, rfl, hown, hb⟩ := hrel
  have hbs := hb.size
  by_cases hlt : k < 64
  ·go_wp2_with fail
   refine (sCellAt k _).mono ?_
   rintro e w1 ⟨rfl, hb1⟩
   have hown1 := own_below hown hb1 NR
   have hbb := hb.trans (hb1.mono hbs)
   have hb1s := hbb.size
   have HOwn := Lh hown1
   have HBB := Lh hbb
   obtain ⟨hax, hay⟩ := at_nat hlt
   rw [hax, hay]
   have HKx := Lh (HKd.out _ (hbb.alloc hbb.size (.cells #[.int .i64 ((k % 8 : Nat) : Int), .int .i64 ((k / 8 : Nat) : Int)] 79)) ((k % 8 : Nat) : Int) ((k / 8 : Nat) : Int))
   have hn' : 0 < kindN L ((k % 8 : Nat) : Int) ((k / 8 : Nat) : Int) ∧ flipsTo L (k + 1) = flipsTo L k ++ [(((k % 8 : Nat) : Int), ((k / 8 : Nat) : Int))] ∨ kindN L ((k % 8 : Nat) : Int) ((k / 8 : Nat) : Int) = 0 ∧ flipsTo L (k + 1) = flipsTo L k := by
    rcases Nat.eq_zero_or_pos (kindN L ((k % 8 : Nat) : Int) ((k / 8 : Nat) : Int)) with h0 | h0
    ·exact .inr ⟨h0, flipsTo_no (by unfold canB; rw [h0]; rfl)⟩
    ·exact .inl ⟨h0, flipsTo_yes (decide_eq_true h0)⟩
   have HN' := Lh hn'
   clear hown hb hb1 hown1 hbb hbs hax hay hn'
   generalize kindN L ((k % 8 : Nat) : Int) ((k / 8 : Nat) : Int) = kk at HKx HN'
   generalize ((k % 8 : Nat) : Int) = u at HKx HN' ⊢
   generalize ((k / 8 : Nat) : Int) = v' at HKx HN' ⊢
   go_wp2_with fail
   refine HKx.out.mono ?_
   rintro e w2 ⟨rfl, hb2⟩
   clear HKx
   have hcc : w2.cell? ⟨w1.heap.size, 0, none⟩ = some (.int .i64 u) ∧ w2.cell? ⟨w1.heap.size, 1, none⟩ = some (.int .i64 v') := by
    have hbl := heap_alloc_new w1 (.cells #[.int .i64 u, .int .i64 v'] 79)
    exact ⟨(hb2.cell (by simp)).trans ((cell_of_row _ _ 0 _ _ _ hbl).trans rfl), (hb2.cell (by simp)).trans ((cell_of_row _ _ 1 _ _ _ hbl).trans rfl)⟩
   obtain ⟨hc2, hc3⟩ := hcc
   have hD : Below w.heap.size w w2 := (HBB.out.alloc hb1s _).trans (hb2.mono (by simp; omega))
   have hE : Below w1.heap.size w1 w2 := (below_alloc1 w1 _).trans (hb2.mono (by simp))
   have HOwn2 := Lh (own_below HOwn.out hE NR)
   have hzz : w1.heap.size < w2.heap.size := by have := hb2.size; simp at this; omega
   have HD := Lh hD
   clear hD hE hb2
   rcases HN'.out with ⟨hkk, hN⟩ | ⟨rfl, hN⟩
   ·have HN := Lh hN
    clear hN HN'
    have HL := Lh (flipsTo_length L k)
    go_wp2_with (first
     | (at_builtin; refine wpList_append_own _ rfl _ _ 75 rfl w.heap.size 79 i0 (.agg #[.int .i64 0, .int .i64 0]) 2 16 Tryz.underlying75 hi hz0 hz1 hz2 rfl (by decide) _ (flipsTo L k).length (rowC (flipsTo L k)) rfl (HOwn2.out.alloc _) ⟨w2.heap.size, 0, none⟩ 1 1 [.int .i64 u, .int .i64 v'] rfl rfl (World.news_of_block (cs := #[.int .i64 u, .int .i64 v']) (t := 79) (fr := (0, 0)) (heap_alloc_new w2 _)) (by simp [Value.oneCell']) (by have := HL.out; unfold maxLen; omega) (by have := HL.out; omega) (by simp; omega) ?_; intro v2 w3 hown3 hgrow _))
    have hb3 : Below w.heap.size w w3 := (HD.out.alloc (by omega) _).grown hgrow (by simp; omega) (fun g hg => (HOwn2.out.lt g hg).1)
    have R := Lh (show w3.ownsRow w.heap.size 79 2 v2 (flipsTo L (k + 1)).length (rowC (flipsTo L (k + 1))) by
     rw [HN.out, rowC_snoc, List.length_append]; exact hown3)
    clear hown3 hgrow
    go_wp2
    go_roundw
    case rel => exact ⟨k + 1, by omega, by go_num, R.out, hb3⟩
    case measure => (simp [intOf] <;> omega)
   ·have HN := Lh hN
    clear hN HN'
    go_wp2
    go_roundw
    case rel => exact ⟨k + 1, by omega, by go_num, by rw [HN.out]; exact HOwn2.out, HD.out⟩
    case measure => (simp [intOf] <;> omega)
  ·obtain rfl : k = 64 := by omega
   obtain ⟨A, cap, rfl⟩ := own_shape hown
   rw [flipsTo_all] at hown ⊢
   have HOwn := Lh hown
   clear hown
   go_wp2
   go_ret
   exact ⟨A, cap, rfl, HOwn.out, hb⟩
end Go.Proofs.YtmajllgfmclcoaaGreatDoor.Flp
