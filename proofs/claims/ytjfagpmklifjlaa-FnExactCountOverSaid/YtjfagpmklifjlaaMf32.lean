/- FrG in one text. -/
import Derived.Test.YtjfagpmklifjlaaMf18
import Derived.Test.YtjfagpmklifjlaaMf15
import Derived.Test.YtjfagpmklifjlaaMf24
import Derived.Test.YtjfagpmklifjlaaMf19
import Derived.BigQuiet

namespace Go.Proofs.Ytjfagpmklifjlaa.Frd
set_option linter.unusedVariables false
set_option linter.unusedSimpArgs false
set_option maxRecDepth 100000
open Go.RowKit Go.Proofs.Ytjfagpmklifjlaa.Pure Go.Proofs.Ytjfagpmklifjlaa.Cell Go.Proofs.Ytjfagpmklifjlaa.Dom Go.Proofs.Ytjfagpmklifjlaa.Dms Go.Proofs.Ytjfagpmklifjlaa.Til Go.Proofs.Ytjfagpmklifjlaa.Fr Go.Joins
open Go.Proofs.Ytjfagpmklifjlaa.Prof (withT iCountWith iCountTilings sCountWith sCountTilings)
open Go.Proofs.Ytjfagpmklifjlaa.Cnt (tilesR)
open Go.Proofs.Ytjfagpmklifjlaa.Reg (RowB)

theorem cW_nonneg (xs : List Int) (d : Dm) : ∃ k : Nat, cW xs d = (k : Int) ∧ k ≤ (tilesR xs).toNat ∧ tilesR xs = ((tilesR xs).toNat : Int) := by
 by_cases ok : okR xs
 ·have h := cnt_le (xs := xs) d
  refine ⟨(holdT xs [d]).length, cW_ok ok d, ?_, ?_⟩
  ·rw [tiles_cnt ok]; unfold cntD at h; omega
  ·rw [tiles_cnt ok]; omega
 ·exact ⟨0, cW_not ok d, Nat.zero_le _, by rw [tiles_not ok]; rfl⟩
theorem tmod_nat (p q : Nat) : Int.tmod (p : Int) (q : Int) = ((p % q : Nat) : Int) := rfl
theorem tdiv_nat (p q : Nat) : Int.tdiv (p : Int) (q : Int) = ((p / q : Nat) : Int) := rfl

set_option maxHeartbeats 1000000 in
theorem iGcd (w : World) (a b : Nat) (ha : a < 9223372036854775808) (hb : b < 9223372036854775808) :
  Calls Try.prog 57 #[.int .i64 (a : Int), .int .i64 (b : Int)] w (Num ((Nat.gcd a b : Nat) : Int) w) := by
 have HG := Lib.hid (show ∀ p q : Nat, 0 < q → Nat.gcd p q = Nat.gcd q (p % q) from fun p q h => gcd_step p q h)
 have HZ := Lib.hid (show ∀ p : Nat, Nat.gcd p 0 = p from fun p => Nat.gcd_zero_right p)
 have HL := Lib.hid (show ∀ p q : Nat, 0 < q → p % q < q from fun p q h => Nat.mod_lt p h)
 have HAB := Lib.hid (And.intro ha hb)
 have HB := Lib.hid (Below.refl w.heap.size w)
 clear ha hb
 obtain ⟨g, hg⟩ : ∃ g, g = Nat.gcd a b := ⟨_, rfl⟩
 rw [← hg]
 have HGg := Lib.hid hg.symm
 clear hg
 go_enter Try.func57, Try.ntmps57
 go_wp2_with fail
 go_loopw [0, 1] (fun u v wr => ∃ p q : Nat, u = .int .i64 (p : Int) ∧ v = .int .i64 (q : Int) ∧ Hid (p < 9223372036854775808 ∧ q < 9223372036854775808) ∧ Hid (Nat.gcd p q = g) ∧ Hid (Below w.heap.size w wr)) (fun _ v _ => (intOf v).toNat)
 case atStart => exact ⟨a, b, rfl, rfl, HAB, HGg, HB⟩
 case round =>
  clear HAB HGg HB
  obtain ⟨p, q, rfl, rfl, HPQ, HE, HB⟩ := hrel
  by_cases hq : q = 0
  ·have HE2 := Lib.hid (show p = g from by rw [← HE.out, hq, HZ.out])
   have hq0 : (q : Int) = 0 := by omega
   have hq1 : ((q : Int) != 0) = false := by simp [hq]
   clear HE hq
   go_wp2
   go_ret
   exact ⟨by rw [HE2.out]; rfl, HB.out⟩
  ·have hq0 : ¬ (q : Int) = 0 := by omega
   have hq1 : ((q : Int) != 0) = true := by simp [hq]
   have HE2 := Lib.hid (show Nat.gcd q (p % q) = g from by rw [← HG.out p q (by omega)]; exact HE.out)
   have HLt := Lib.hid (HL.out p q (by omega))
   have hm0 := tmod_nat p q
   obtain ⟨r, hr⟩ : ∃ r, r = p % q := ⟨_, rfl⟩
   rw [← hr] at hm0 HE2 HLt
   have hw : IntKind.i64.wrap (r : Int) = (r : Int) := by rw [IntKind.wrap_i64]; have := HLt.out; have := HPQ.out; omega
   have hw2 : wrap64 (r : Int) = (r : Int) := by have := HLt.out; have := HPQ.out; unfold wrap64; omega
   have HD := Lib.hid (HB.out.drew)
   have hmm : (p : Int) % (q : Int) = (r : Int) := hm0
   clear hr HE
   go_wp2_with fail
   refine wp_region_noPanic ?_
   refine wp_region_held_drew (S := fun _ => True) (by kernel_rfl) (trivial) (fun hHeld => ?_)
   generalize wr.drew = W1 at HD hHeld ⊢
   refine wpAnyH_take (i := 0) (v := ?_) rfl (by kernel_rfl) (by kernel_rfl) (by kernel_rfl) (fun _ _ _ h => h) (Or.inl ⟨by rfl, ?_⟩) (by assumption) ?_
   rotate_left
   ·(intro w' hS; (try dsimp only at hS); go_simp; try with_reducible rfl)
   try simp only [Act.put, List.getElem_toArray, List.getElem_cons_succ, List.getElem_cons_zero, List.setIfInBounds_toArray, List.set_cons_zero, List.set_cons_succ]
   refine wpAnyH_take (i := 1) (v := ?_) rfl (by kernel_rfl) (by kernel_rfl) (by kernel_rfl) (fun _ _ _ h => h) (Or.inl ⟨by rfl, ?_⟩) (by assumption) ?_
   rotate_left
   ·(intro w' hS; (try dsimp only at hS); go_simp; try with_reducible rfl)
   try simp only [Act.put, List.getElem_toArray, List.getElem_cons_succ, List.getElem_cons_zero, List.setIfInBounds_toArray, List.set_cons_zero, List.set_cons_succ]
   refine wpAnyH_take (i := 2) (v := ?_) rfl (by kernel_rfl) (by kernel_rfl) (by kernel_rfl) (fun _ _ _ h => h) (Or.inl ⟨by rfl, ?_⟩) (by assumption) ?_
   rotate_left
   ·(intro w' hS; (try dsimp only at hS); go_simp; try with_reducible rfl)
   try simp only [Act.put, List.getElem_toArray, List.getElem_cons_succ, List.getElem_cons_zero, List.setIfInBounds_toArray, List.set_cons_zero, List.set_cons_succ]
   refine wpAnyH_take (i := 3) (v := ?_) rfl (by kernel_rfl) (by kernel_rfl) (by kernel_rfl) (fun _ _ _ h => h) (Or.inl ⟨by rfl, ?_⟩) (by assumption) ?_
   rotate_left
   ·(intro w' hS; (try dsimp only at hS); go_simp; try with_reducible rfl)
   try simp only [Act.put, List.getElem_toArray, List.getElem_cons_succ, List.getElem_cons_zero, List.setIfInBounds_toArray, List.set_cons_zero, List.set_cons_succ]
   refine wpAnyH_take (i := 4) (v := ?_) rfl (by kernel_rfl) (by kernel_rfl) (by kernel_rfl) (fun _ _ _ h => h) (Or.inl ⟨by rfl, ?_⟩) (by assumption) ?_
   rotate_left
   ·(intro w' hS; (try dsimp only at hS); go_simp; try with_reducible rfl)
   try simp only [Act.put, List.getElem_toArray, List.getElem_cons_succ, List.getElem_cons_zero, List.setIfInBounds_toArray, List.set_cons_zero, List.set_cons_succ]
   refine wpAnyH_take (i := 5) (v := ?_) rfl (by kernel_rfl) (by kernel_rfl) (by kernel_rfl) (fun _ _ _ h => h) (Or.inl ⟨by rfl, ?_⟩) (by assumption) ?_
   rotate_left
   ·(intro w' hS; (try dsimp only at hS); go_simp; try with_reducible rfl)
   try simp only [Act.put, List.getElem_toArray, List.getElem_cons_succ, List.getElem_cons_zero, List.setIfInBounds_toArray, List.set_cons_zero, List.set_cons_succ]
   refine wpAnyH_done (by kernel_rfl) ?_ _
   refine NoPanic.normal ?_
   clear hHeld
   go_wp2
   go_roundw
   case rel => exact ⟨q, r, rfl, by go_num, Lib.hid ⟨HPQ.out.2, by have := HLt.out; have := HPQ.out; omega⟩, HE2, HD⟩
   case measure => (have := HLt.out; simp [intOf]; omega)
set_option maxHeartbeats 1000000 in
theorem sGcd (w : World) (a b : Nat) (ha : a < 9223372036854775808) (hb : b < 9223372036854775808) :
  Calls Try.prog 69 #[.int .i64 (a : Int), .int .i64 (b : Int)] w (Num ((Nat.gcd a b : Nat) : Int) w) := by
 have HG := Lib.hid (show ∀ p q : Nat, 0 < q → Nat.gcd p q = Nat.gcd q (p % q) from fun p q h => gcd_step p q h)
 have HZ := Lib.hid (show ∀ p : Nat, Nat.gcd p 0 = p from fun p => Nat.gcd_zero_right p)
 have HL := Lib.hid (show ∀ p q : Nat, 0 < q → p % q < q from fun p q h => Nat.mod_lt p h)
 have HAB := Lib.hid (And.intro ha hb)
 have HB := Lib.hid (Below.refl w.heap.size w)
 clear ha hb
 obtain ⟨g, hg⟩ : ∃ g, g = Nat.gcd a b := ⟨_, rfl⟩
 rw [← hg]
 have HGg := Lib.hid hg.symm
 clear hg
 go_enter Try.func69, Try.ntmps69
 go_wp2_with fail
 go_loopw [0, 1] (fun u v wr => ∃ p q : Nat, u = .int .i64 (p : Int) ∧ v = .int .i64 (q : Int) ∧ Hid (p < 9223372036854775808 ∧ q < 9223372036854775808) ∧ Hid (Nat.gcd p q = g) ∧ Hid (Below w.heap.size w wr)) (fun _ v _ => (intOf v).toNat)
 case atStart => exact ⟨a, b, rfl, rfl, HAB, HGg, HB⟩
 case round =>
  clear HAB HGg HB
  obtain ⟨p, q, rfl, rfl, HPQ, HE, HB⟩ := hrel
  by_cases hq : q = 0
  ·have HE2 := Lib.hid (show p = g from by rw [← HE.out, hq, HZ.out])
   have hq0 : (q : Int) = 0 := by omega
   have hq1 : decide ((0 : Int) < (q : Int)) = false := decide_eq_false (by omega)
   have hq2 : ¬ (0 : Int) < (q : Int) := by omega
   clear HE hq
   go_wp2
   go_ret
   exact ⟨by rw [HE2.out]; rfl, HB.out⟩
  ·have hq0 : ¬ (q : Int) = 0 := by omega
   have hq1 : decide ((0 : Int) < (q : Int)) = true := decide_eq_true (by omega)
   have hq2 : (0 : Int) < (q : Int) := by omega
   have HE2 := Lib.hid (show Nat.gcd q (p % q) = g from by rw [← HG.out p q (by omega)]; exact HE.out)
   have HLt := Lib.hid (HL.out p q (by omega))
   have hm0 := tmod_nat p q
   obtain ⟨r, hr⟩ : ∃ r, r = p % q := ⟨_, rfl⟩
   rw [← hr] at hm0 HE2 HLt
   have hw : IntKind.i64.wrap (r : Int) = (r : Int) := by rw [IntKind.wrap_i64]; have := HLt.out; have := HPQ.out; omega
   have hw2 : wrap64 (r : Int) = (r : Int) := by have := HLt.out; have := HPQ.out; unfold wrap64; omega
   have HD := Lib.hid (HB.out.drew)
   have hmm : (p : Int) % (q : Int) = (r : Int) := hm0
   clear hr HE
   go_wp2_with fail
   refine wp_region_noPanic ?_
   refine wp_region_held_drew (S := fun _ => True) (by kernel_rfl) (trivial) (fun hHeld => ?_)
   generalize wr.drew = W1 at HD hHeld ⊢
   refine wpAnyH_take (i := 0) (v := ?_) rfl (by kernel_rfl) (by kernel_rfl) (by kernel_rfl) (fun _ _ _ h => h) (Or.inl ⟨by rfl, ?_⟩) (by assumption) ?_
   rotate_left
   ·(intro w' hS; (try dsimp only at hS); go_simp; try with_reducible rfl)
   try simp only [Act.put, List.getElem_toArray, List.getElem_cons_succ, List.getElem_cons_zero, List.setIfInBounds_toArray, List.set_cons_zero, List.set_cons_succ]
   refine wpAnyH_take (i := 1) (v := ?_) rfl (by kernel_rfl) (by kernel_rfl) (by kernel_rfl) (fun _ _ _ h => h) (Or.inl ⟨by rfl, ?_⟩) (by assumption) ?_
   rotate_left
   ·(intro w' hS; (try dsimp only at hS); go_simp; try with_reducible rfl)
   try simp only [Act.put, List.getElem_toArray, List.getElem_cons_succ, List.getElem_cons_zero, List.setIfInBounds_toArray, List.set_cons_zero, List.set_cons_succ]
   refine wpAnyH_take (i := 2) (v := ?_) rfl (by kernel_rfl) (by kernel_rfl) (by kernel_rfl) (fun _ _ _ h => h) (Or.inl ⟨by rfl, ?_⟩) (by assumption) ?_
   rotate_left
   ·(intro w' hS; (try dsimp only at hS); go_simp; try with_reducible rfl)
   try simp only [Act.put, List.getElem_toArray, List.getElem_cons_succ, List.getElem_cons_zero, List.setIfInBounds_toArray, List.set_cons_zero, List.set_cons_succ]
   refine wpAnyH_take (i := 3) (v := ?_) rfl (by kernel_rfl) (by kernel_rfl) (by kernel_rfl) (fun _ _ _ h => h) (Or.inl ⟨by rfl, ?_⟩) (by assumption) ?_
   rotate_left
   ·(intro w' hS; (try dsimp only at hS); go_simp; try with_reducible rfl)
   try simp only [Act.put, List.getElem_toArray, List.getElem_cons_succ, List.getElem_cons_zero, List.setIfInBounds_toArray, List.set_cons_zero, List.set_cons_succ]
   refine wpAnyH_take (i := 4) (v := ?_) rfl (by kernel_rfl) (by kernel_rfl) (by kernel_rfl) (fun _ _ _ h => h) (Or.inl ⟨by rfl, ?_⟩) (by assumption) ?_
   rotate_left
   ·(intro w' hS; (try dsimp only at hS); go_simp; try with_reducible rfl)
   try simp only [Act.put, List.getElem_toArray, List.getElem_cons_succ, List.getElem_cons_zero, List.setIfInBounds_toArray, List.set_cons_zero, List.set_cons_succ]
   refine wpAnyH_take (i := 5) (v := ?_) rfl (by kernel_rfl) (by kernel_rfl) (by kernel_rfl) (fun _ _ _ h => h) (Or.inl ⟨by rfl, ?_⟩) (by assumption) ?_
   rotate_left
   ·(intro w' hS; (try dsimp only at hS); go_simp; try with_reducible rfl)
   try simp only [Act.put, List.getElem_toArray, List.getElem_cons_succ, List.getElem_cons_zero, List.setIfInBounds_toArray, List.set_cons_zero, List.set_cons_succ]
   refine wpAnyH_done (by kernel_rfl) ?_ _
   refine NoPanic.normal ?_
   clear hHeld
   go_wp2
   go_roundw
   case rel => exact ⟨q, r, rfl, by go_num, Lib.hid ⟨HPQ.out.2, by have := HLt.out; have := HPQ.out; omega⟩, HE2, HD⟩
   case measure => (have := HLt.out; simp [intOf]; omega)
def shareV (k n : Nat) : Int × Int := if k = 0 then (0, 1) else (((k / Nat.gcd n k : Nat) : Int), ((n / Nat.gcd n k : Nat) : Int))
def TwoP (p : Int × Int) (w : World) (e : Ending) (w' : World) : Prop := e = .returned (.tuple #[.int .i64 p.1, .int .i64 p.2]) ∧ Below w.heap.size w w'
def shareR (xs : List Int) (d : Dm) : Int × Int := shareV (cW xs d).toNat (tilesR xs).toNat
theorem rd_boxes (w : World) (v : Value) (x y : Int) (b : Bool) : Til.RD w v x y b ((w.alloc (.cells #[v] 26)).alloc (.cells #[.int .i64 x, .int .i64 y, .bool b] 41)) := rd_start w v x y b
theorem tiles_wf (xs : List Int) : (Lit.int .i64 (tilesR xs)).wf = true := by
 unfold tilesR; split
 ·exact wrap64_wf _
 ·rfl
theorem tiles_small (xs : List Int) : tilesR xs < 9223372036854775808 := by
 have := bounds_i64 (tiles_wf xs)
 omega
set_option maxHeartbeats 1000000 in
theorem iShareOf (w : World) (A : Option Addr) (n cap B : Nat) (xs : List Int) (hx : xs.length = n) (hn : (n : Int) ≤ 1048576) (h : RowB w B A xs) (hB : B ≤ w.heap.size) (hcap : A = none → n = 0 ∧ cap = 0) (x y : Int) (b : Bool) (hsx : Sm x) (hsy : Sm y) :
  Calls Try.prog 20 #[.agg #[.slice A n cap], .agg #[.int .i64 x, .int .i64 y, .bool b]] w (TwoP (shareR xs (x, y, b)) w) := by
 have HW := Lib.hid (fun W (hb : Below w.heap.size w W) => show Calls Try.prog 54 #[.agg #[.slice A n cap], .agg #[.int .i64 x, .int .i64 y, .bool b]] W (Num (cW xs (x, y, b)) W) from iCountWith W A n cap B xs hx hn (h.below hb hB) (by have := hb.size; omega) hcap x y b hsx hsy)
 have HT := Lib.hid (fun W (hb : Below w.heap.size w W) => iCountTilings W A n cap B xs hx (by omega) (h.below hb hB) (by have := hb.size; omega))
 obtain ⟨k, hk, hle, hm⟩ := cW_nonneg xs (x, y, b)
 have hsm := tiles_small xs
 have HS := Lib.hid (rd_boxes w (.slice A n cap) x y b)
 unfold shareR
 rw [hk, Int.toNat_natCast]
 rw [hk] at HW
 generalize (tilesR xs).toNat = m at hle hm ⊢
 rw [hm] at HT hsm
 have hm2 : m < 9223372036854775808 := by omega
 clear hx hn h hB hcap hsx hsy hk hm hsm
 go_enter Try.func20, Try.ntmps20
 go_wp2_with fail
 generalize (w.alloc (.cells #[.slice A n cap] 26)).alloc (.cells #[.int .i64 x, .int .i64 y, .bool b] 41) = W0 at HS ⊢
 obtain ⟨B0, r0, d0⟩ := HS.out
 have HR := Lib.hid r0
 have r0 := r0.c0
 have e0 := d0.c0
 have e1 := d0.c1
 have e2 := d0.c2
 clear HS d0
 go_wp2_with fail
 refine (HW.out _ B0).mono ?_
 rintro e w1 ⟨rfl, hb1⟩
 have B1 := B0.trans (hb1.mono B0.size)
 have r1 := (HR.out.on hb1).c0
 clear B0 HR r0 e0 e1 e2 hb1 HW
 by_cases h0 : k = 0
 ·have hk0 : (k : Int) = 0 := by omega
  have hk1 : ((k : Int) == 0) = true := by simp [h0]
  have HV := Lib.hid (show shareV k m = (0, 1) from if_pos h0)
  clear HT h0
  go_wp2
  exact bodyPost_ret (v := .tuple #[.int .i64 0, .int .i64 1]) (by simp [results, Try.results20, go_sem]) rfl ⟨by rw [HV.out], B1⟩
 ·have hk0 : ¬ (k : Int) = 0 := by omega
  have hk1 : ((k : Int) == 0) = false := by simp [h0]
  have HGc := Lib.hid (fun W => iGcd W k m (by omega) hm2)
  rw [Nat.gcd_comm k m] at HGc
  have hg : 0 < Nat.gcd m k := Nat.gcd_pos_of_pos_right m (by omega)
  have HV := Lib.hid (show shareV k m = (((k / Nat.gcd m k : Nat) : Int), ((m / Nat.gcd m k : Nat) : Int)) from if_neg h0)
  have l1 := Nat.div_le_self k (Nat.gcd m k)
  have l2 := Nat.div_le_self m (Nat.gcd m k)
  generalize Nat.gcd m k = g at HGc hg HV l1 l2
  have t1 := tdiv_nat k g
  have t2 := tdiv_nat m g
  have u1 : (k : Int) / (g : Int) = ((k / g : Nat) : Int) := rfl
  have u2 : (m : Int) / (g : Int) = ((m / g : Nat) : Int) := rfl
  generalize k / g = p at HV l1 t1 u1
  generalize m / g = q at HV l2 t2 u2
  have hp : IntKind.i64.wrap (p : Int) = (p : Int) := by rw [IntKind.wrap_i64]; omega
  have hp2 : wrap64 (p : Int) = (p : Int) := by unfold wrap64; omega
  have hq : IntKind.i64.wrap (q : Int) = (q : Int) := by rw [IntKind.wrap_i64]; omega
  have hq2 : wrap64 (q : Int) = (q : Int) := by unfold wrap64; omega
  have hg0 : ¬ (g : Int) = 0 := by omega
  have hg1 : ¬ g = 0 := by omega
  clear l1 l2 hle
  go_wp2_with fail
  refine (HT.out _ B1).mono ?_
  rintro e w2 ⟨rfl, hb2⟩
  have B2 := B1.trans (hb2.mono B1.size)
  clear B1 r1 hb2 HT
  go_wp2_with fail
  refine (HGc.out _).mono ?_
  rintro e w3 ⟨rfl, hb3⟩
  have B3 := B2.trans (hb3.mono B2.size)
  clear B2 hb3 HGc
  go_wp2_with fail
  refine wp_region_noPanic ?_
  have HB := Lib.hid B3.drew
  refine wp_region_held_drew (S := fun _ => True) (by kernel_rfl) (trivial) (fun hHeld => ?_)
  generalize w3.drew = W1 at HB hHeld ⊢
  refine wpAnyH_take (i := 0) (v := ?_) rfl (by kernel_rfl) (by kernel_rfl) (by kernel_rfl) (fun _ _ _ h => h) (Or.inl ⟨by rfl, ?_⟩) (by assumption) ?_
  rotate_left
  ·(intro w' hS; (try dsimp only at hS); go_simp; try with_reducible rfl)
  try simp only [Act.put, List.getElem_toArray, List.getElem_cons_succ, List.getElem_cons_zero, List.setIfInBounds_toArray, List.set_cons_zero, List.set_cons_succ]
  refine wpAnyH_take (i := 1) (v := ?_) rfl (by kernel_rfl) (by kernel_rfl) (by kernel_rfl) (fun _ _ _ h => h) (Or.inl ⟨by rfl, ?_⟩) (by assumption) ?_
  rotate_left
  ·(intro w' hS; (try dsimp only at hS); go_simp; try with_reducible rfl)
  try simp only [Act.put, List.getElem_toArray, List.getElem_cons_succ, List.getElem_cons_zero, List.setIfInBounds_toArray, List.set_cons_zero, List.set_cons_succ]
  refine wpAnyH_take (i := 2) (v := ?_) rfl (by kernel_rfl) (by kernel_rfl) (by kernel_rfl) (fun _ _ _ h => h) (Or.inl ⟨by rfl, ?_⟩) (by assumption) ?_
  rotate_left
  ·(intro w' hS; (try dsimp only at hS); go_simp; try with_reducible rfl)
  try simp only [Act.put, List.getElem_toArray, List.getElem_cons_succ, List.getElem_cons_zero, List.setIfInBounds_toArray, List.set_cons_zero, List.set_cons_succ]
  refine wpAnyH_take (i := 3) (v := ?_) rfl (by kernel_rfl) (by kernel_rfl) (by kernel_rfl) (fun _ _ _ h => h) (Or.inl ⟨by rfl, ?_⟩) (by assumption) ?_
  rotate_left
  ·(intro w' hS; (try dsimp only at hS); go_simp; try with_reducible rfl)
  try simp only [Act.put, List.getElem_toArray, List.getElem_cons_succ, List.getElem_cons_zero, List.setIfInBounds_toArray, List.set_cons_zero, List.set_cons_succ]
  refine wpAnyH_take (i := 4) (v := ?_) rfl (by kernel_rfl) (by kernel_rfl) (by kernel_rfl) (fun _ _ _ h => h) (Or.inl ⟨by rfl, ?_⟩) (by assumption) ?_
  rotate_left
  ·(intro w' hS; (try dsimp only at hS); go_simp; try with_reducible rfl)
  try simp only [Act.put, List.getElem_toArray, List.getElem_cons_succ, List.getElem_cons_zero, List.setIfInBounds_toArray, List.set_cons_zero, List.set_cons_succ]
  refine wpAnyH_take (i := 5) (v := ?_) rfl (by kernel_rfl) (by kernel_rfl) (by kernel_rfl) (fun _ _ _ h => h) (Or.inl ⟨by rfl, ?_⟩) (by assumption) ?_
  rotate_left
  ·(intro w' hS; (try dsimp only at hS); go_simp; try with_reducible rfl)
  try simp only [Act.put, List.getElem_toArray, List.getElem_cons_succ, List.getElem_cons_zero, List.setIfInBounds_toArray, List.set_cons_zero, List.set_cons_succ]
  refine wpAnyH_take (i := 6) (v := ?_) rfl (by kernel_rfl) (by kernel_rfl) (by kernel_rfl) (fun _ _ _ h => h) (Or.inl ⟨by rfl, ?_⟩) (by assumption) ?_
  rotate_left
  ·(intro w' hS; (try dsimp only at hS); go_simp; try with_reducible rfl)
  try simp only [Act.put, List.getElem_toArray, List.getElem_cons_succ, List.getElem_cons_zero, List.setIfInBounds_toArray, List.set_cons_zero, List.set_cons_succ]
  refine wpAnyH_take (i := 7) (v := ?_) rfl (by kernel_rfl) (by kernel_rfl) (by kernel_rfl) (fun _ _ _ h => h) (Or.inl ⟨by rfl, ?_⟩) (by assumption) ?_
  rotate_left
  ·(intro w' hS; (try dsimp only at hS); go_simp; try with_reducible rfl)
  try simp only [Act.put, List.getElem_toArray, List.getElem_cons_succ, List.getElem_cons_zero, List.setIfInBounds_toArray, List.set_cons_zero, List.set_cons_succ]
  refine wpAnyH_done (by kernel_rfl) ?_ _
  refine NoPanic.normal ?_
  clear hHeld B3
  go_wp2
  exact bodyPost_ret (v := .tuple #[.int .i64 p, .int .i64 q]) (by simp [results, Try.results20, go_sem]) rfl ⟨by rw [HV.out], HB.out⟩
set_option maxHeartbeats 1000000 in
theorem sShareOf (w : World) (A : Option Addr) (n cap B : Nat) (xs : List Int) (hx : xs.length = n) (hn : (n : Int) ≤ 1048576) (h : RowB w B A xs) (hB : B ≤ w.heap.size) (hcap : A = none → n = 0 ∧ cap = 0) (x y : Int) (b : Bool) :
  Calls Try.prog 35 #[.agg #[.slice A n cap], .agg #[.int .i64 x, .int .i64 y, .bool b]] w (TwoP (shareR xs (x, y, b)) w) := by
 have HW := Lib.hid (fun W (hb : Below w.heap.size w W) => show Calls Try.prog 21 #[.agg #[.slice A n cap], .agg #[.int .i64 x, .int .i64 y, .bool b]] W (Num (cW xs (x, y, b)) W) from sCountWith W A n cap B xs hx hn (h.below hb hB) (by have := hb.size; omega) hcap x y b)
 have HT := Lib.hid (fun W (hb : Below w.heap.size w W) => sCountTilings W A n cap B xs hx (by omega) (h.below hb hB) (by have := hb.size; omega))
 obtain ⟨k, hk, hle, hm⟩ := cW_nonneg xs (x, y, b)
 have hsm := tiles_small xs
 have HS := Lib.hid (rd_boxes w (.slice A n cap) x y b)
 unfold shareR
 rw [hk, Int.toNat_natCast]
 rw [hk] at HW
 generalize (tilesR xs).toNat = m at hle hm ⊢
 rw [hm] at HT hsm
 have hm2 : m < 9223372036854775808 := by omega
 clear hx hn h hB hcap hk hm hsm
 go_enter Try.func35, Try.ntmps35
 go_wp2_with fail
 generalize (w.alloc (.cells #[.slice A n cap] 26)).alloc (.cells #[.int .i64 x, .int .i64 y, .bool b] 41) = W0 at HS ⊢
 obtain ⟨B0, r0, d0⟩ := HS.out
 have HR := Lib.hid r0
 have r0 := r0.c0
 have e0 := d0.c0
 have e1 := d0.c1
 have e2 := d0.c2
 clear HS d0
 go_wp2_with fail
 refine (HW.out _ B0).mono ?_
 rintro e w1 ⟨rfl, hb1⟩
 have B1 := B0.trans (hb1.mono B0.size)
 have r1 := (HR.out.on hb1).c0
 clear B0 HR r0 e0 e1 e2 hb1 HW
 by_cases h0 : k = 0
 ·have hk0 : (k : Int) = 0 := by omega
  have hk1 : ((k : Int) == 0) = true := by simp [h0]
  have HV := Lib.hid (show shareV k m = (0, 1) from if_pos h0)
  clear HT h0
  go_wp2
  exact bodyPost_ret (v := .tuple #[.int .i64 0, .int .i64 1]) (by simp [results, Try.results35, go_sem]) rfl ⟨by rw [HV.out], B1⟩
 ·have hk0 : ¬ (k : Int) = 0 := by omega
  have hk1 : ((k : Int) == 0) = false := by simp [h0]
  have HGc := Lib.hid (fun W => sGcd W m k hm2 (by omega))
  have hg : 0 < Nat.gcd m k := Nat.gcd_pos_of_pos_right m (by omega)
  have HV := Lib.hid (show shareV k m = (((k / Nat.gcd m k : Nat) : Int), ((m / Nat.gcd m k : Nat) : Int)) from if_neg h0)
  have l1 := Nat.div_le_self k (Nat.gcd m k)
  have l2 := Nat.div_le_self m (Nat.gcd m k)
  generalize Nat.gcd m k = g at HGc hg HV l1 l2
  have t1 := tdiv_nat k g
  have t2 := tdiv_nat m g
  have u1 : (k : Int) / (g : Int) = ((k / g : Nat) : Int) := rfl
  have u2 : (m : Int) / (g : Int) = ((m / g : Nat) : Int) := rfl
  generalize k / g = p at HV l1 t1 u1
  generalize m / g = q at HV l2 t2 u2
  have hp : IntKind.i64.wrap (p : Int) = (p : Int) := by rw [IntKind.wrap_i64]; omega
  have hp2 : wrap64 (p : Int) = (p : Int) := by unfold wrap64; omega
  have hq : IntKind.i64.wrap (q : Int) = (q : Int) := by rw [IntKind.wrap_i64]; omega
  have hq2 : wrap64 (q : Int) = (q : Int) := by unfold wrap64; omega
  have hg0 : ¬ (g : Int) = 0 := by omega
  have hg1 : ¬ g = 0 := by omega
  clear l1 l2 hle
  go_wp2_with fail
  refine (HT.out _ B1).mono ?_
  rintro e w2 ⟨rfl, hb2⟩
  have B2 := B1.trans (hb2.mono B1.size)
  clear B1 r1 hb2 HT
  go_wp2_with fail
  refine (HGc.out _).mono ?_
  rintro e w3 ⟨rfl, hb3⟩
  have B3 := B2.trans (hb3.mono B2.size)
  clear B2 hb3 HGc
  go_wp2_with fail
  refine wp_region_noPanic ?_
  have HB := Lib.hid B3.drew
  refine wp_region_held_drew (S := fun _ => True) (by kernel_rfl) (trivial) (fun hHeld => ?_)
  generalize w3.drew = W1 at HB hHeld ⊢
  refine wpAnyH_take (i := 0) (v := ?_) rfl (by kernel_rfl) (by kernel_rfl) (by kernel_rfl) (fun _ _ _ h => h) (Or.inl ⟨by rfl, ?_⟩) (by assumption) ?_
  rotate_left
  ·(intro w' hS; (try dsimp only at hS); go_simp; try with_reducible rfl)
  try simp only [Act.put, List.getElem_toArray, List.getElem_cons_succ, List.getElem_cons_zero, List.setIfInBounds_toArray, List.set_cons_zero, List.set_cons_succ]
  refine wpAnyH_take (i := 1) (v := ?_) rfl (by kernel_rfl) (by kernel_rfl) (by kernel_rfl) (fun _ _ _ h => h) (Or.inl ⟨by rfl, ?_⟩) (by assumption) ?_
  rotate_left
  ·(intro w' hS; (try dsimp only at hS); go_simp; try with_reducible rfl)
  try simp only [Act.put, List.getElem_toArray, List.getElem_cons_succ, List.getElem_cons_zero, List.setIfInBounds_toArray, List.set_cons_zero, List.set_cons_succ]
  refine wpAnyH_take (i := 2) (v := ?_) rfl (by kernel_rfl) (by kernel_rfl) (by kernel_rfl) (fun _ _ _ h => h) (Or.inl ⟨by rfl, ?_⟩) (by assumption) ?_
  rotate_left
  ·(intro w' hS; (try dsimp only at hS); go_simp; try with_reducible rfl)
  try simp only [Act.put, List.getElem_toArray, List.getElem_cons_succ, List.getElem_cons_zero, List.setIfInBounds_toArray, List.set_cons_zero, List.set_cons_succ]
  refine wpAnyH_take (i := 3) (v := ?_) rfl (by kernel_rfl) (by kernel_rfl) (by kernel_rfl) (fun _ _ _ h => h) (Or.inl ⟨by rfl, ?_⟩) (by assumption) ?_
  rotate_left
  ·(intro w' hS; (try dsimp only at hS); go_simp; try with_reducible rfl)
  try simp only [Act.put, List.getElem_toArray, List.getElem_cons_succ, List.getElem_cons_zero, List.setIfInBounds_toArray, List.set_cons_zero, List.set_cons_succ]
  refine wpAnyH_take (i := 4) (v := ?_) rfl (by kernel_rfl) (by kernel_rfl) (by kernel_rfl) (fun _ _ _ h => h) (Or.inl ⟨by rfl, ?_⟩) (by assumption) ?_
  rotate_left
  ·(intro w' hS; (try dsimp only at hS); go_simp; try with_reducible rfl)
  try simp only [Act.put, List.getElem_toArray, List.getElem_cons_succ, List.getElem_cons_zero, List.setIfInBounds_toArray, List.set_cons_zero, List.set_cons_succ]
  refine wpAnyH_take (i := 5) (v := ?_) rfl (by kernel_rfl) (by kernel_rfl) (by kernel_rfl) (fun _ _ _ h => h) (Or.inl ⟨by rfl, ?_⟩) (by assumption) ?_
  rotate_left
  ·(intro w' hS; (try dsimp only at hS); go_simp; try with_reducible rfl)
  try simp only [Act.put, List.getElem_toArray, List.getElem_cons_succ, List.getElem_cons_zero, List.setIfInBounds_toArray, List.set_cons_zero, List.set_cons_succ]
  refine wpAnyH_take (i := 6) (v := ?_) rfl (by kernel_rfl) (by kernel_rfl) (by kernel_rfl) (fun _ _ _ h => h) (Or.inl ⟨by rfl, ?_⟩) (by assumption) ?_
  rotate_left
  ·(intro w' hS; (try dsimp only at hS); go_simp; try with_reducible rfl)
  try simp only [Act.put, List.getElem_toArray, List.getElem_cons_succ, List.getElem_cons_zero, List.setIfInBounds_toArray, List.set_cons_zero, List.set_cons_succ]
  refine wpAnyH_take (i := 7) (v := ?_) rfl (by kernel_rfl) (by kernel_rfl) (by kernel_rfl) (fun _ _ _ h => h) (Or.inl ⟨by rfl, ?_⟩) (by assumption) ?_
  rotate_left
  ·(intro w' hS; (try dsimp only at hS); go_simp; try with_reducible rfl)
  try simp only [Act.put, List.getElem_toArray, List.getElem_cons_succ, List.getElem_cons_zero, List.setIfInBounds_toArray, List.set_cons_zero, List.set_cons_succ]
  refine wpAnyH_done (by kernel_rfl) ?_ _
  refine NoPanic.normal ?_
  clear hHeld B3
  go_wp2
  exact bodyPost_ret (v := .tuple #[.int .i64 p, .int .i64 q]) (by simp [results, Try.results35, go_sem]) rfl ⟨by rw [HV.out], HB.out⟩
end Go.Proofs.Ytjfagpmklifjlaa.Frd
