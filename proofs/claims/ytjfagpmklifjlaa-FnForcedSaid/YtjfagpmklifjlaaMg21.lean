/- FrG, Dss, LisS in one text. -/
import Derived.Test.YtjfagpmklifjlaaMg17
import Derived.Test.YtjfagpmklifjlaaMg14
import Derived.Test.YtjfagpmklifjlaaMg16
import Derived.Test.YtjfagpmklifjlaaMg18
import Derived.BigQuiet
import Derived.Test.YtjfagpmklifjlaaMg05
import Derived.Test.YtjfagpmklifjlaaMg01

namespace Go.Proofs.Ytjfagpmklifjlaa.Frd
set_option linter.unusedVariables false
set_option linter.unusedSimpArgs false
set_option maxRecDepth 100000
open Go.RowKit Go.Proofs.Ytjfagpmklifjlaa.Pure Go.Proofs.Ytjfagpmklifjlaa.Cell Go.Proofs.Ytjfagpmklifjlaa.Dom Go.Proofs.Ytjfagpmklifjlaa.Dms Go.Proofs.Ytjfagpmklifjlaa.Til Go.Proofs.Ytjfagpmklifjlaa.Fr Go.Joins
open Go.Proofs.Ytjfagpmklifjlaa.Prof (withT iCountWith iCountTilings sCountWith sCountTilings)
open Go.Proofs.Ytjfagpmklifjlaa.Cnt (tilesR)
open Go.Proofs.Ytjfagpmklifjlaa.Reg (RowB)

theorem cW_nonneg (xs : List Int) (d : Dm) : ∃ k : Nat, cW xs d = (k : Int) ∧ k ≤ (tilesR xs).toNat ∧ tilesR xs = ((tilesR xs).toNat : Int) := by
 by_cases ok : okR xs
 ·have h := cnt_le (xs := xs) d
  refine ⟨(holdT xs [d]).length, cW_ok ok d, ?_, ?_⟩
  ·rw [tiles_cnt ok]; unfold cntD at h; omega
  ·rw [tiles_cnt ok]; omega
 ·exact ⟨0, cW_not ok d, Nat.zero_le _, by rw [tiles_not ok]; rfl⟩
theorem tmod_nat (p q : Nat) : Int.tmod (p : Int) (q : Int) = ((p % q : Nat) : Int) := rfl
theorem tdiv_nat (p q : Nat) : Int.tdiv (p : Int) (q : Int) = ((p / q : Nat) : Int) := rfl

set_option maxHeartbeats 1000000 in
theorem iGcd (w : World) (a b : Nat) (ha : a < 9223372036854775808) (hb : b < 9223372036854775808) :
  Calls Try.prog 57 #[.int .i64 (a : Int), .int .i64 (b : Int)] w (Num ((Nat.gcd a b : Nat) : Int) w) := by
 have HG := Lib.hid (show ∀ p q : Nat, 0 < q → Nat.gcd p q = Nat.gcd q (p % q) from fun p q h => gcd_step p q h)
 have HZ := Lib.hid (show ∀ p : Nat, Nat.gcd p 0 = p from fun p => Nat.gcd_zero_right p)
 have HL := Lib.hid (show ∀ p q : Nat, 0 < q → p % q < q from fun p q h => Nat.mod_lt p h)
 have HAB := Lib.hid (And.intro ha hb)
 have HB := Lib.hid (Below.refl w.heap.size w)
 clear ha hb
 obtain ⟨g, hg⟩ : ∃ g, g = Nat.gcd a b := ⟨_, rfl⟩
 rw [← hg]
 have HGg := Lib.hid hg.symm
 clear hg
 go_enter Try.func57, Try.ntmps57
 go_wp2_with fail
 go_loopw [0, 1] (fun u v wr => ∃ p q : Nat, u = .int .i64 (p : Int) ∧ v = .int .i64 (q : Int) ∧ Hid (p < 9223372036854775808 ∧ q < 9223372036854775808) ∧ Hid (Nat.gcd p q = g) ∧ Hid (Below w.heap.size w wr)) (fun _ v _ => (intOf v).toNat)
 case atStart => exact ⟨a, b, rfl, rfl, HAB, HGg, HB⟩
 case round =>
  clear HAB HGg HB
  obtain ⟨p, q, rfl, rfl, HPQ, HE, HB⟩ := hrel
  by_cases hq : q = 0
  ·have HE2 := Lib.hid (show p = g from by rw [← HE.out, hq, HZ.out])
   have hq0 : (q : Int) = 0 := by omega
   have hq1 : ((q : Int) != 0) = false := by simp [hq]
   clear HE hq
   go_wp2
   go_ret
   exact ⟨by rw [HE2.out]; rfl, HB.out⟩
  ·have hq0 : ¬ (q : Int) = 0 := by omega
   have hq1 : ((q : Int) != 0) = true := by simp [hq]
   have HE2 := Lib.hid (show Nat.gcd q (p % q) = g from by rw [← HG.out p q (by omega)]; exact HE.out)
   have HLt := Lib.hid (HL.out p q (by omega))
   have hm0 := tmod_nat p q
   obtain ⟨r, hr⟩ : ∃ r, r = p % q := ⟨_, rfl⟩
   rw [← hr] at hm0 HE2 HLt
   have hw : IntKind.i64.wrap (r : Int) = (r : Int) := by rw [IntKind.wrap_i64]; have := HLt.out; have := HPQ.out; omega
   have hw2 : wrap64 (r : Int) = (r : Int) := by have := HLt.out; have := HPQ.out; unfold wrap64; omega
   have HD := Lib.hid (HB.out.drew)
   have hmm : (p : Int) % (q : Int) = (r : Int) := hm0
   clear hr HE
   go_wp2_with fail
   refine wp_region_noPanic ?_
   refine wp_region_held_drew (S := fun _ => True) (by kernel_rfl) (trivial) (fun hHeld => ?_)
   generalize wr.drew = W1 at HD hHeld ⊢
   refine wpAnyH_take (i := 0) (v := ?_) rfl (by kernel_rfl) (by kernel_rfl) (by kernel_rfl) (fun _ _ _ h => h) (Or.inl ⟨by rfl, ?_⟩) (by assumption) ?_
   rotate_left
   ·(intro w' hS; (try dsimp only at hS); go_simp; try with_reducible rfl)
   try simp only [Act.put, List.getElem_toArray, List.getElem_cons_succ, List.getElem_cons_zero, List.setIfInBounds_toArray, List.set_cons_zero, List.set_cons_succ]
   refine wpAnyH_take (i := 1) (v := ?_) rfl (by kernel_rfl) (by kernel_rfl) (by kernel_rfl) (fun _ _ _ h => h) (Or.inl ⟨by rfl, ?_⟩) (by assumption) ?_
   rotate_left
   ·(intro w' hS; (try dsimp only at hS); go_simp; try with_reducible rfl)
   try simp only [Act.put, List.getElem_toArray, List.getElem_cons_succ, List.getElem_cons_zero, List.setIfInBounds_toArray, List.set_cons_zero, List.set_cons_succ]
   refine wpAnyH_take (i := 2) (v := ?_) rfl (by kernel_rfl) (by kernel_rfl) (by kernel_rfl) (fun _ _ _ h => h) (Or.inl ⟨by rfl, ?_⟩) (by assumption) ?_
   rotate_left
   ·(intro w' hS; (try dsimp only at hS); go_simp; try with_reducible rfl)
   try simp only [Act.put, List.getElem_toArray, List.getElem_cons_succ, List.getElem_cons_zero, List.setIfInBounds_toArray, List.set_cons_zero, List.set_cons_succ]
   refine wpAnyH_take (i := 3) (v := ?_) rfl (by kernel_rfl) (by kernel_rfl) (by kernel_rfl) (fun _ _ _ h => h) (Or.inl ⟨by rfl, ?_⟩) (by assumption) ?_
   rotate_left
   ·(intro w' hS; (try dsimp only at hS); go_simp; try with_reducible rfl)
   try simp only [Act.put, List.getElem_toArray, List.getElem_cons_succ, List.getElem_cons_zero, List.setIfInBounds_toArray, List.set_cons_zero, List.set_cons_succ]
   refine wpAnyH_take (i := 4) (v := ?_) rfl (by kernel_rfl) (by kernel_rfl) (by kernel_rfl) (fun _ _ _ h => h) (Or.inl ⟨by rfl, ?_⟩) (by assumption) ?_
   rotate_left
   ·(intro w' hS; (try dsimp only at hS); go_simp; try with_reducible rfl)
   try simp only [Act.put, List.getElem_toArray, List.getElem_cons_succ, List.getElem_cons_zero, List.setIfInBounds_toArray, List.set_cons_zero, List.set_cons_succ]
   refine wpAnyH_take (i := 5) (v := ?_) rfl (by kernel_rfl) (by kernel_rfl) (by kernel_rfl) (fun _ _ _ h => h) (Or.inl ⟨by rfl, ?_⟩) (by assumption) ?_
   rotate_left
   ·(intro w' hS; (try dsimp only at hS); go_simp; try with_reducible rfl)
   try simp only [Act.put, List.getElem_toArray, List.getElem_cons_succ, List.getElem_cons_zero, List.setIfInBounds_toArray, List.set_cons_zero, List.set_cons_succ]
   refine wpAnyH_done (by kernel_rfl) ?_ _
   refine NoPanic.normal ?_
   clear hHeld
   go_wp2
   go_roundw
   case rel => exact ⟨q, r, rfl, by go_num, Lib.hid ⟨HPQ.out.2, by have := HLt.out; have := HPQ.out; omega⟩, HE2, HD⟩
   case measure => (have := HLt.out; simp [intOf]; omega)
def shareV (k n : Nat) : Int × Int := if k = 0 then (0, 1) else (((k / Nat.gcd n k : Nat) : Int), ((n / Nat.gcd n k : Nat) : Int))
def TwoP (p : Int × Int) (w : World) (e : Ending) (w' : World) : Prop := e = .returned (.tuple #[.int .i64 p.1, .int .i64 p.2]) ∧ Below w.heap.size w w'
def shareR (xs : List Int) (d : Dm) : Int × Int := shareV (cW xs d).toNat (tilesR xs).toNat
theorem rd_boxes (w : World) (v : Value) (x y : Int) (b : Bool) : Til.RD w v x y b ((w.alloc (.cells #[v] 26)).alloc (.cells #[.int .i64 x, .int .i64 y, .bool b] 41)) := rd_start w v x y b
theorem tiles_wf (xs : List Int) : (Lit.int .i64 (tilesR xs)).wf = true := by
 unfold tilesR; split
 ·exact wrap64_wf _
 ·rfl
theorem tiles_small (xs : List Int) : tilesR xs < 9223372036854775808 := by
 have := bounds_i64 (tiles_wf xs)
 omega
set_option maxHeartbeats 1000000 in
theorem iShareOf (w : World) (A : Option Addr) (n cap B : Nat) (xs : List Int) (hx : xs.length = n) (hn : (n : Int) ≤ 1048576) (h : RowB w B A xs) (hB : B ≤ w.heap.size) (hcap : A = none → n = 0 ∧ cap = 0) (x y : Int) (b : Bool) (hsx : Sm x) (hsy : Sm y) :
  Calls Try.prog 20 #[.agg #[.slice A n cap], .agg #[.int .i64 x, .int .i64 y, .bool b]] w (TwoP (shareR xs (x, y, b)) w) := by
 have HW := Lib.hid (fun W (hb : Below w.heap.size w W) => show Calls Try.prog 54 #[.agg #[.slice A n cap], .agg #[.int .i64 x, .int .i64 y, .bool b]] W (Num (cW xs (x, y, b)) W) from iCountWith W A n cap B xs hx hn (h.below hb hB) (by have := hb.size; omega) hcap x y b hsx hsy)
 have HT := Lib.hid (fun W (hb : Below w.heap.size w W) => iCountTilings W A n cap B xs hx (by omega) (h.below hb hB) (by have := hb.size; omega))
 obtain ⟨k, hk, hle, hm⟩ := cW_nonneg xs (x, y, b)
 have hsm := tiles_small xs
 have HS := Lib.hid (rd_boxes w (.slice A n cap) x y b)
 unfold shareR
 rw [hk, Int.toNat_natCast]
 rw [hk] at HW
 generalize (tilesR xs).toNat = m at hle hm ⊢
 rw [hm] at HT hsm
 have hm2 : m < 9223372036854775808 := by omega
 clear hx hn h hB hcap hsx hsy hk hm hsm
 go_enter Try.func20, Try.ntmps20
 go_wp2_with fail
 generalize (w.alloc (.cells #[.slice A n cap] 26)).alloc (.cells #[.int .i64 x, .int .i64 y, .bool b] 41) = W0 at HS ⊢
 obtain ⟨B0, r0, d0⟩ := HS.out
 have HR := Lib.hid r0
 have r0 := r0.c0
 have e0 := d0.c0
 have e1 := d0.c1
 have e2 := d0.c2
 clear HS d0
 go_wp2_with fail
 refine (HW.out _ B0).mono ?_
 rintro e w1 ⟨rfl, hb1⟩
 have B1 := B0.trans (hb1.mono B0.size)
 have r1 := (HR.out.on hb1).c0
 clear B0 HR r0 e0 e1 e2 hb1 HW
 by_cases h0 : k = 0
 ·have hk0 : (k : Int) = 0 := by omega
  have hk1 : ((k : Int) == 0) = true := by simp [h0]
  have HV := Lib.hid (show shareV k m = (0, 1) from if_pos h0)
  clear HT h0
  go_wp2
  exact bodyPost_ret (v := .tuple #[.int .i64 0, .int .i64 1]) (by simp [results, Try.results20, go_sem]) rfl ⟨by rw [HV.out], B1⟩
 ·have hk0 : ¬ (k : Int) = 0 := by omega
  have hk1 : ((k : Int) == 0) = false := by simp [h0]
  have HGc := Lib.hid (fun W => iGcd W k m (by omega) hm2)
  rw [Nat.gcd_comm k m] at HGc
  have hg : 0 < Nat.gcd m k := Nat.gcd_pos_of_pos_right m (by omega)
  have HV := Lib.hid (show shareV k m = (((k / Nat.gcd m k : Nat) : Int), ((m / Nat.gcd m k : Nat) : Int)) from if_neg h0)
  have l1 := Nat.div_le_self k (Nat.gcd m k)
  have l2 := Nat.div_le_self m (Nat.gcd m k)
  generalize Nat.gcd m k = g at HGc hg HV l1 l2
  have t1 := tdiv_nat k g
  have t2 := tdiv_nat m g
  have u1 : (k : Int) / (g : Int) = ((k / g : Nat) : Int) := rfl
  have u2 : (m : Int) / (g : Int) = ((m / g : Nat) : Int) := rfl
  generalize k / g = p at HV l1 t1 u1
  generalize m / g = q at HV l2 t2 u2
  have hp : IntKind.i64.wrap (p : Int) = (p : Int) := by rw [IntKind.wrap_i64]; omega
  have hp2 : wrap64 (p : Int) = (p : Int) := by unfold wrap64; omega
  have hq : IntKind.i64.wrap (q : Int) = (q : Int) := by rw [IntKind.wrap_i64]; omega
  have hq2 : wrap64 (q : Int) = (q : Int) := by unfold wrap64; omega
  have hg0 : ¬ (g : Int) = 0 := by omega
  have hg1 : ¬ g = 0 := by omega
  clear l1 l2 hle
  go_wp2_with fail
  refine (HT.out _ B1).mono ?_
  rintro e w2 ⟨rfl, hb2⟩
  have B2 := B1.trans (hb2.mono B1.size)
  clear B1 r1 hb2 HT
  go_wp2_with fail
  refine (HGc.out _).mono ?_
  rintro e w3 ⟨rfl, hb3⟩
  have B3 := B2.trans (hb3.mono B2.size)
  clear B2 hb3 HGc
  go_wp2_with fail
  refine wp_region_noPanic ?_
  have HB := Lib.hid B3.drew
  refine wp_region_held_drew (S := fun _ => True) (by kernel_rfl) (trivial) (fun hHeld => ?_)
  generalize w3.drew = W1 at HB hHeld ⊢
  refine wpAnyH_take (i := 0) (v := ?_) rfl (by kernel_rfl) (by kernel_rfl) (by kernel_rfl) (fun _ _ _ h => h) (Or.inl ⟨by rfl, ?_⟩) (by assumption) ?_
  rotate_left
  ·(intro w' hS; (try dsimp only at hS); go_simp; try with_reducible rfl)
  try simp only [Act.put, List.getElem_toArray, List.getElem_cons_succ, List.getElem_cons_zero, List.setIfInBounds_toArray, List.set_cons_zero, List.set_cons_succ]
  refine wpAnyH_take (i := 1) (v := ?_) rfl (by kernel_rfl) (by kernel_rfl) (by kernel_rfl) (fun _ _ _ h => h) (Or.inl ⟨by rfl, ?_⟩) (by assumption) ?_
  rotate_left
  ·(intro w' hS; (try dsimp only at hS); go_simp; try with_reducible rfl)
  try simp only [Act.put, List.getElem_toArray, List.getElem_cons_succ, List.getElem_cons_zero, List.setIfInBounds_toArray, List.set_cons_zero, List.set_cons_succ]
  refine wpAnyH_take (i := 2) (v := ?_) rfl (by kernel_rfl) (by kernel_rfl) (by kernel_rfl) (fun _ _ _ h => h) (Or.inl ⟨by rfl, ?_⟩) (by assumption) ?_
  rotate_left
  ·(intro w' hS; (try dsimp only at hS); go_simp; try with_reducible rfl)
  try simp only [Act.put, List.getElem_toArray, List.getElem_cons_succ, List.getElem_cons_zero, List.setIfInBounds_toArray, List.set_cons_zero, List.set_cons_succ]
  refine wpAnyH_take (i := 3) (v := ?_) rfl (by kernel_rfl) (by kernel_rfl) (by kernel_rfl) (fun _ _ _ h => h) (Or.inl ⟨by rfl, ?_⟩) (by assumption) ?_
  rotate_left
  ·(intro w' hS; (try dsimp only at hS); go_simp; try with_reducible rfl)
  try simp only [Act.put, List.getElem_toArray, List.getElem_cons_succ, List.getElem_cons_zero, List.setIfInBounds_toArray, List.set_cons_zero, List.set_cons_succ]
  refine wpAnyH_take (i := 4) (v := ?_) rfl (by kernel_rfl) (by kernel_rfl) (by kernel_rfl) (fun _ _ _ h => h) (Or.inl ⟨by rfl, ?_⟩) (by assumption) ?_
  rotate_left
  ·(intro w' hS; (try dsimp only at hS); go_simp; try with_reducible rfl)
  try simp only [Act.put, List.getElem_toArray, List.getElem_cons_succ, List.getElem_cons_zero, List.setIfInBounds_toArray, List.set_cons_zero, List.set_cons_succ]
  refine wpAnyH_take (i := 5) (v := ?_) rfl (by kernel_rfl) (by kernel_rfl) (by kernel_rfl) (fun _ _ _ h => h) (Or.inl ⟨by rfl, ?_⟩) (by assumption) ?_
  rotate_left
  ·(intro w' hS; (try dsimp only at hS); go_simp; try with_reducible rfl)
  try simp only [Act.put, List.getElem_toArray, List.getElem_cons_succ, List.getElem_cons_zero, List.setIfInBounds_toArray, List.set_cons_zero, List.set_cons_succ]
  refine wpAnyH_take (i := 6) (v := ?_) rfl (by kernel_rfl) (by kernel_rfl) (by kernel_rfl) (fun _ _ _ h => h) (Or.inl ⟨by rfl, ?_⟩) (by assumption) ?_
  rotate_left
  ·(intro w' hS; (try dsimp only at hS); go_simp; try with_reducible rfl)
  try simp only [Act.put, List.getElem_toArray, List.getElem_cons_succ, List.getElem_cons_zero, List.setIfInBounds_toArray, List.set_cons_zero, List.set_cons_succ]
  refine wpAnyH_take (i := 7) (v := ?_) rfl (by kernel_rfl) (by kernel_rfl) (by kernel_rfl) (fun _ _ _ h => h) (Or.inl ⟨by rfl, ?_⟩) (by assumption) ?_
  rotate_left
  ·(intro w' hS; (try dsimp only at hS); go_simp; try with_reducible rfl)
  try simp only [Act.put, List.getElem_toArray, List.getElem_cons_succ, List.getElem_cons_zero, List.setIfInBounds_toArray, List.set_cons_zero, List.set_cons_succ]
  refine wpAnyH_done (by kernel_rfl) ?_ _
  refine NoPanic.normal ?_
  clear hHeld B3
  go_wp2
  exact bodyPost_ret (v := .tuple #[.int .i64 p, .int .i64 q]) (by simp [results, Try.results20, go_sem]) rfl ⟨by rw [HV.out], HB.out⟩
end Go.Proofs.Ytjfagpmklifjlaa.Frd

namespace Go.Proofs.Ytjfagpmklifjlaa.Dss
set_option linter.unusedVariables false
set_option linter.unusedSimpArgs false
open Go.RowKit Go.Proofs.Ytjfagpmklifjlaa.Base Go.Proofs.Ytjfagpmklifjlaa.Dms Go.Joins
open Go.Proofs.Ytjfagpmklifjlaa.Reg

def blk (a : Option Addr) : Option Nat := a.map (·.block)
theorem ownBlock_slice (a : Option Addr) (n c : Nat) : (Value.slice a n c).ownBlock = blk a := by cases a <;> rfl
def Dif (a b : Option Addr) : Prop := ∀ g, blk a = some g → blk b ≠ some g
theorem dif_types {W : World} {lo lo' e e' size size' n n' : Nat} {A A' : Option Addr} {c c' m m' : Nat} {xs xs' : List Value} (h : W.ownsRow lo e size (.slice A m c) n xs) (h' : W.ownsRow lo' e' size' (.slice A' m' c') n' xs') (hne : e ≠ e') : Dif A A' := by
 intro g h1 h2
 rcases h.2 with ⟨hv, _⟩ | ⟨g1, cap1, cur1, hv, _, hg1, _⟩
 ·injection hv with hA; subst hA; cases h1
 ·injection hv with hA; subst hA
  rcases h'.2 with ⟨hv', _⟩ | ⟨g2, cap2, cur2, hv', _, hg2, _⟩
  ·injection hv' with hA'; subst hA'; cases h2
  ·injection hv' with hA'; subst hA'
   simp [blk] at h1 h2
   subst h1; subst h2
   rw [hg1] at hg2
   injection hg2 with hg2
   injection hg2 with _ hg2
   exact hne hg2
def outs (h : Nat) (S : List (Option Addr × Nat)) : List Value := S.map fun s : Option Addr × Nat => Value.slice s.1 h s.2
theorem outs_length (h : Nat) (S : List (Option Addr × Nat)) : (outs h S).length = S.length := by unfold outs; simp
theorem outs_at {h : Nat} {S : List (Option Addr × Nat)} {i : Nat} {s : Option Addr × Nat} (hs : S[i]? = some s) : (outs h S)[i]? = some (.slice s.1 h s.2) := by unfold outs; rw [List.getElem?_map, hs]; rfl
def Ins (W : World) (lo hi h : Nat) (L : List (List Dm)) (S : List (Option Addr × Nat)) : Prop :=
 S.length = L.length ∧ (∀ (i : Nat) (s : Option Addr × Nat) (x : List Dm), S[i]? = some s → L[i]? = some x → RowIn W lo hi 41 3 (.slice s.1 h s.2) h (rowM x)) ∧ S.Pairwise (fun s t : Option Addr × Nat => Dif s.1 t.1)
def SSl (W : World) (lo hi : Nat) (A : Option Addr) (m cap h : Nat) (L : List (List Dm)) (S : List (Option Addr × Nat)) : Prop :=
 RowIn W lo hi 28 1 (.slice A m cap) m (outs h S) ∧ Ins W lo hi h L S
def SSIn (W : World) (lo hi : Nat) (A : Option Addr) (m cap h : Nat) (L : List (List Dm)) : Prop := ∃ S, SSl W lo hi A m cap h L S
theorem SSl.length {W : World} {lo hi m cap h : Nat} {A : Option Addr} {L : List (List Dm)} {S : List (Option Addr × Nat)} (k : SSl W lo hi A m cap h L S) : L.length = m ∧ S.length = m := by
 have h1 := k.1.1.1
 rw [outs_length] at h1
 have h2 := k.2.1
 omega
theorem Ins.nil (W : World) (lo hi h : Nat) : Ins W lo hi h [] [] := ⟨rfl, fun i s x hs => by simp at hs, List.Pairwise.nil⟩
theorem RowIn.wide {W : World} {lo hi lo' hi' e size n : Nat} {v : Value} {xs : List Value} (h : RowIn W lo hi e size v n xs) (h1 : lo' ≤ lo) (h2 : hi ≤ hi') : RowIn W lo' hi' e size v n xs :=
 ⟨own_base h.1 h1, fun g hg => by have := h.2 g hg; omega⟩
theorem Ins.wide {W : World} {lo hi lo' hi' h : Nat} {L : List (List Dm)} {S : List (Option Addr × Nat)} (k : Ins W lo hi h L S) (h1 : lo' ≤ lo) (h2 : hi ≤ hi') : Ins W lo' hi' h L S :=
 ⟨k.1, fun i s x hs hx => RowIn.wide (k.2.1 i s x hs hx) h1 h2, k.2.2⟩
theorem Ins.on {W W' : World} {lo hi h : Nat} {L : List (List Dm)} {S : List (Option Addr × Nat)} (k : Ins W lo hi h L S) (hb : Below W.heap.size W W') : Ins W' lo hi h L S :=
 ⟨k.1, fun i s x hs hx => (k.2.1 i s x hs hx).on hb, k.2.2⟩
theorem SSIn.wide {W : World} {lo hi lo' hi' m cap h : Nat} {A : Option Addr} {L : List (List Dm)} (k : SSIn W lo hi A m cap h L) (h1 : lo' ≤ lo) (h2 : hi ≤ hi') : SSIn W lo' hi' A m cap h L := by
 obtain ⟨S, k1, k2⟩ := k
 exact ⟨S, RowIn.wide k1 h1 h2, k2.wide h1 h2⟩
theorem rows_dif {W : World} {lo hi lo' hi' e e' size size' n n' m m' c c' : Nat} {A A' : Option Addr} {xs xs' : List Value} (h : RowIn W lo hi e size (.slice A m c) n xs) (h' : RowIn W lo' hi' e' size' (.slice A' m' c') n' xs') (hd : hi ≤ lo') : Dif A A' := by
 intro g h1 h2
 have a := h.2 g (by rw [ownBlock_slice]; exact h1)
 have b := (h'.1.lt g (by rw [ownBlock_slice]; exact h2)).1
 omega
theorem Ins.app {W : World} {lo hi lo' hi' h : Nat} {L L' : List (List Dm)} {S S' : List (Option Addr × Nat)} (k : Ins W lo hi h L S) (k' : Ins W lo' hi' h L' S') (h1 : lo ≤ hi) (hd : hi ≤ lo') (h2 : lo' ≤ hi') : Ins W lo hi' h (L ++ L') (S ++ S') := by
 refine ⟨by rw [List.length_append, List.length_append, k.1, k'.1], fun i s x hs hx => ?_, ?_⟩
 ·by_cases hi' : i < S.length
  ·rw [List.getElem?_append_left hi'] at hs
   rw [List.getElem?_append_left (by rw [← k.1]; exact hi')] at hx
   exact RowIn.wide (k.2.1 i s x hs hx) (Nat.le_refl _) (by omega)
  ·rw [List.getElem?_append_right (by omega)] at hs
   rw [List.getElem?_append_right (by rw [← k.1]; omega), ← k.1] at hx
   exact RowIn.wide (k'.2.1 _ s x hs hx) (by omega) (Nat.le_refl _)
 ·rw [List.pairwise_append]
  refine ⟨k.2.2, k'.2.2, fun s hs t ht => ?_⟩
  obtain ⟨i, hi1, e1⟩ := List.getElem_of_mem hs
  obtain ⟨j, hj1, e2⟩ := List.getElem_of_mem ht
  have r1 := k.2.1 i s _ (by rw [List.getElem?_eq_getElem hi1, e1]) (List.getElem?_eq_getElem (by rw [← k.1]; exact hi1))
  have r2 := k'.2.1 j t _ (by rw [List.getElem?_eq_getElem hj1, e2]) (List.getElem?_eq_getElem (by rw [← k'.1]; exact hj1))
  exact rows_dif r1 r2 hd
theorem Ins.one {W : World} {lo hi h c : Nat} {A : Option Addr} {x : List Dm} (k : RowIn W lo hi 41 3 (.slice A h c) h (rowM x)) : Ins W lo hi h [x] [(A, c)] := by
 refine ⟨rfl, fun i s y hs hy => ?_, by simp⟩
 cases i with
 | zero => simp at hs hy; subst hs; subst hy; exact k
 | succ i => simp at hs

def RowSS (w : World) (B : Nat) (A : Option Addr) (m h : Nat) (L : List (List Dm)) : Prop :=
 ∃ (b : Nat) (S : List (Option Addr × Nat)), S.length = L.length ∧ (0 < m → A = some ⟨b, 0, none⟩ ∧ b < B) ∧ ∀ (i : Nat) (s : Option Addr × Nat) (x : List Dm), S[i]? = some s → L[i]? = some x → w.cell? ⟨b, i, none⟩ = some (.slice s.1 h s.2) ∧ RowM w B s.1 x
theorem ss_row {W : World} {lo hi m cap h : Nat} {A : Option Addr} {L : List (List Dm)} (k : SSIn W lo hi A m cap h L) : RowSS W W.heap.size A m h L := by
 obtain ⟨S, k⟩ := k
 have hl := k.length
 by_cases h0 : 0 < m
 ·obtain ⟨g, c, hv, _, hlt⟩ := k.1.1.form (by omega)
  injection hv with hA
  subst hA
  refine ⟨g, S, k.2.1, fun _ => ⟨rfl, hlt⟩, fun i s x hs hx => ⟨?_, rowM_own (k.2.2.1 i s x hs hx).1⟩⟩
  have := k.1.1.cells (g := g) rfl i _ (outs_at hs)
  rwa [Base.add_plain] at this
 ·refine ⟨0, S, k.2.1, fun q => by omega, fun i s x hs hx => ?_⟩
  have := (List.getElem?_eq_some_iff.1 hs).1
  omega
end Go.Proofs.Ytjfagpmklifjlaa.Dss

namespace Go.Proofs.Ytjfagpmklifjlaa.Lis
set_option linter.unusedVariables false
set_option linter.unusedSimpArgs false
open Go.RowKit Go.Proofs.Ytjfagpmklifjlaa.Pure Go.Proofs.Ytjfagpmklifjlaa.Cell Go.Proofs.Ytjfagpmklifjlaa.Dom Go.Proofs.Ytjfagpmklifjlaa.Dms Go.Proofs.Ytjfagpmklifjlaa.Til Go.Proofs.Ytjfagpmklifjlaa.Dss Go.Joins
open Go.Proofs.Ytjfagpmklifjlaa.Cnt (gR tiles gR_in gR_out)
open Go.Proofs.Ytjfagpmklifjlaa.Reg hiding RC rc_start

theorem append_any {P : Program} (w : World) {ops : Array Oper} {rest : List Oper} {o : Oper} {a : Act} {Q : Exit → Act → World → Prop} (hgd : o.guard = none) (s x : Operand) (t : TypeId)
  (ho : o.op = .call { callee := .builtin .append, args := #[s, x], argTypes := #[t, t] })
  (base : Nat) (e : TypeId) (i : TypeInfo) (z : Value) (size bytes : Nat) (ht : P.underlying t = some (.slice e)) (hi : P.info? e = some i) (hz : i.zero = some z)
  (hsize : i.size = size) (hby : i.bytes = bytes) (hzs : z.cells.size = size) (hsz : 0 < size)
  (g n cap : Nat) (xs : List Value) (hs : a.eval s = .slice (some ⟨g, 0, none⟩) n cap) (hown : w.ownsRow base e size (.slice (some ⟨g, 0, none⟩) n cap) n xs)
  (ad : Addr) (m c : Nat) (news : List Value) (hx : a.eval x = .slice (some ad) m c) (hl : news.length = m * size) (hnews : ∀ j u, news[j]? = some u → w.cell? (ad.add j) = some u) (h1 : ∀ u ∈ news, u.oneCell' = true)
  (h63 : n + m ≤ maxLen) (hbytes : (n + m) * bytes ≤ 140737488355328) (hbase : base ≤ w.heap.size)
  (h : ∀ g' cap' w', w'.ownsRow base e size (.slice (some ⟨g', 0, none⟩) (n + m) cap') (n + m) (xs ++ news) → w.grownBy w' (some g) → (g' = g ∨ g' = w.heap.size) → g' < w'.heap.size → wpList P ops Q rest (a.put o.dst (.slice (some ⟨g', 0, none⟩) (n + m) cap')) w') : wpList P ops Q (o :: rest) a w := by
 rcases Nat.eq_zero_or_pos m with h0 | h0
 ·refine wpList_append_fits w hgd s x t ho base e i size ht hi hsize g n cap xs hs hown ad m c news hx hl hnews h1 (by
   rcases hown.2 with ⟨q, _⟩ | ⟨g', cap', cur, q, _, _, h1, _⟩
   ·cases q
   ·injection q with _ _ qc
    subst qc; omega) ?_
  intro w' k1 k2
  exact h g cap w' k1 k2 (.inl rfl) (k1.lt g rfl).2
 ·refine wpList_append_lies w hgd s x t ho base e i z size bytes ht hi hz hsize hby hzs hsz _ n xs hs hown ad m c news hx hl hnews h1 h0 h63 hbytes hbase w.heap.size rfl ?_
  intro g' cap' w' k1 k2 k3 k4
  refine h g' cap' w' k1 k2 ?_ k4
  rcases k3 with k3 | k3
  ·injection k3 with k3; exact .inl k3.symm
  ·exact .inr k3

theorem step_append_any {P : Program} (w : World) {ops : Array Oper} {o : Oper} {a : Act} {K : Act → World → Prop} {Q : Exit → Act → World → Prop} {E : Prop} (hgd : o.guard = none) (s x : Operand) (t : TypeId)
  (ho : o.op = .call { callee := .builtin .append, args := #[s, x], argTypes := #[t, t] })
  (base : Nat) (e : TypeId) (i : TypeInfo) (z : Value) (size bytes : Nat) (ht : P.underlying t = some (.slice e)) (hi : P.info? e = some i) (hz : i.zero = some z)
  (hsize : i.size = size) (hby : i.bytes = bytes) (hzs : z.cells.size = size) (hsz : 0 < size)
  (g n cap : Nat) (xs : List Value) (hs : a.eval s = .slice (some ⟨g, 0, none⟩) n cap) (hown : w.ownsRow base e size (.slice (some ⟨g, 0, none⟩) n cap) n xs)
  (ad : Addr) (m c : Nat) (news : List Value) (hx : a.eval x = .slice (some ad) m c) (hl : news.length = m * size) (hnews : ∀ j u, news[j]? = some u → w.cell? (ad.add j) = some u) (h1 : ∀ u ∈ news, u.oneCell' = true)
  (h63 : n + m ≤ maxLen) (hbytes : (n + m) * bytes ≤ 140737488355328) (hbase : base ≤ w.heap.size)
  (h : ∀ g' cap' w', w'.ownsRow base e size (.slice (some ⟨g', 0, none⟩) (n + m) cap') (n + m) (xs ++ news) → w.grownBy w' (some g) → (g' = g ∨ g' = w.heap.size) → g' < w'.heap.size → K (a.put o.dst (.slice (some ⟨g', 0, none⟩) (n + m) cap')) w') :
  if Region.wanted o (yielded ops a.tmps) = true then Oper.wp P o a w K Q else E := by
 have hw : Region.wanted o (yielded ops a.tmps) = true := by simp [Region.wanted, hgd]
 rw [if_pos hw]
 rcases Nat.eq_zero_or_pos m with h0 | h0
 ·obtain ⟨w', hr, k1, k2⟩ := run_append_fits (P := P) w base t o.type e i size ht hi hsize g n cap xs hown ad m c news hl hnews h1 (by
   rcases hown.2 with ⟨q, _⟩ | ⟨g', cap', cur, q, _, _, h1, _⟩
   ·cases q
   ·injection q with _ _ qc
    subst qc; omega)
  unfold Oper.wp execOp
  simp only [ho, resolve, invoke, builtin, Sem.run_bind, Sem.run_pure, Result.andThen_ok, List.map_toArray, List.map_cons, List.map_nil, hs, hx, hr]
  exact h g cap w' k1 k2 (.inl rfl) (k1.lt g rfl).2
 ·refine wp_append_lies w s x t ho base e i z size bytes ht hi hz hsize hby hzs hsz _ n xs hs hown ad m c news hx hl hnews h1 h0 h63 hbytes hbase w.heap.size rfl ?_
  intro g' cap' w' k1 k2 k3 k4
  refine h g' cap' w' k1 k2 ?_ k4
  rcases k3 with k3 | k3
  ·injection k3 with k3; exact .inl k3.symm
  ·exact .inr k3

def SSPost (L : List (List Dm)) (h : Nat) (w : World) (e : Ending) (w' : World) : Prop :=
 ∃ g cap, e = .returned (.slice (some ⟨g, 0, none⟩) L.length cap) ∧ SSIn w' w.heap.size w'.heap.size (some ⟨g, 0, none⟩) L.length cap h L ∧ Below w.heap.size w w'
structure Lst (w : World) (va : Value) (bC offC : Nat) (C : List (Int × Int)) (h : Nat) (L : List (List Dm)) (go co : Nat) (W : World) : Prop where
 bel : Below w.heap.size w W
 box : Rg W w.heap.size va
 cs : RdC W bC offC C
 ne : 0 < C.length → w.heap.size + 2 ≤ bC ∧ go ≠ bC
 out : ∃ S, W.ownsRow (w.heap.size + 1) 28 1 (.slice (some ⟨go, 0, none⟩) L.length co) L.length (outs h S) ∧ Ins W (w.heap.size + 1) W.heap.size h L S
section
variable {w : World} {va : Value} {bC offC : Nat} {C : List (Int × Int)} {h : Nat} {L : List (List Dm)} {go co : Nat} {W W' : World}
theorem Lst.on (k : Lst w va bC offC C h L go co W) (hb : Below W.heap.size W W') : Lst w va bC offC C h L go co W' := by
 obtain ⟨S, s1, s2⟩ := k.out
 exact ⟨k.bel.trans (hb.mono k.bel.size), k.box.on hb, k.cs.on hb, k.ne, S, Reg.own_below s1 hb (Nat.le_refl _), (s2.on hb).wide (Nat.le_refl _) hb.size⟩
theorem Lst.drew (k : Lst w va bC offC C h L go co W) : Lst w va bC offC C h L go co W.drew := by
 obtain ⟨S, s1, s2⟩ := k.out
 exact ⟨k.bel.drew, k.box, k.cs, k.ne, S, s1, s2⟩
theorem Ins.grown {lo hi lo' m c g : Nat} {xs : List Value} {S : List (Option Addr × Nat)} (k : Ins W lo hi h L S) (ho : W.ownsRow lo' 28 1 (.slice (some ⟨g, 0, none⟩) m c) m xs) (hg : W.grownBy W' (some g)) : Ins W' lo hi h L S := by
 refine ⟨k.1, fun i s x hs hx => ?_, k.2.2⟩
 have r := k.2.1 i s x hs hx
 refine ⟨r.1.kept hg (.inr (fun e => ?_)), r.2⟩
 rw [ownBlock_slice] at e
 exact dif_types ho r.1 (by decide) g rfl e
theorem Lst.app {S' : List (Option Addr × Nat)} {L' : List (List Dm)} {go' co' m' : Nat} (k : Lst w va bC offC C h L go co W) (S : List (Option Addr × Nat)) (hS : W.ownsRow (w.heap.size + 1) 28 1 (.slice (some ⟨go, 0, none⟩) L.length co) L.length (outs h S))
  (hI : Ins W (w.heap.size + 1) W.heap.size h (L ++ L') (S ++ S')) (hm : m' = (L ++ L').length) (hg : W.grownBy W' (some go)) (hat : go' = go ∨ go' = W.heap.size)
  (hown : W'.ownsRow (w.heap.size + 1) 28 1 (.slice (some ⟨go', 0, none⟩) m' co') m' (outs h S ++ outs h S')) : Lst w va bC offC C h (L ++ L') go' co' W' := by
 subst hm
 have hgo := hS.lt go rfl
 refine ⟨k.bel.grown hg k.bel.size (fun j hj => by injection hj; omega), (hg.block _ k.box.lt (by intro e; injection e with e; omega)).trans k.box, k.cs.grown hg (fun h0 => (k.ne h0).2), fun h0 => ⟨(k.ne h0).1, ?_⟩, S ++ S', ?_, (Ins.grown hI hS hg).wide (Nat.le_refl _) hg.size⟩
 ·have a := k.ne h0
  have b := k.cs.1 h0
  rcases hat with e | e <;> omega
 ·have e : outs h (S ++ S') = outs h S ++ outs h S' := by unfold outs; rw [List.map_append]
  rw [e]; exact hown
theorem Lst.post (k : Lst w va bC offC C h L go co W) : SSPost L h w (.returned (.slice (some ⟨go, 0, none⟩) L.length co)) W := by
 obtain ⟨S, s1, s2⟩ := k.out
 exact ⟨go, co, rfl, ⟨S, ⟨Reg.own_base s1 (by omega), fun g hg => (s1.lt g hg).2⟩, s2.wide (by omega) (Nat.le_refl _)⟩, k.bel⟩
end
theorem can_is {xs : List Int} (ho : okR xs) {M : List Dm} {c : Nat} (hc : c < 64) (b : Bool) : canB xs M c b = (okM (dmN c b) && (hasB xs (sx (dmN c b).1 b) (sy (dmN c b).2.1 b) && !anyM M (sx (dmN c b).1 b) (sy (dmN c b).2.1 b))) := by
 rw [Bool.eq_iff_iff]
 constructor
 ·intro h
  obtain ⟨h1, h2, h3⟩ := can_lt h
  obtain ⟨o1, o2, o3⟩ := oth_ok h1 h2
  rw [gM_iff] at h3
  rw [o1, o2, o3, has_place ho h3.1, h3.2]; rfl
 ·intro h
  rw [Bool.and_eq_true, Bool.and_eq_true] at h
  obtain ⟨h1, h2, h3⟩ := h
  have hk : (b = false → c % 8 ≠ 7) ∧ oth c b < 64 := by
   unfold okM domB dmN at h1
   rw [Bool.and_eq_true, okB_iff, okB_iff] at h1
   unfold Ok at h1
   cases b
   ·simp only [sx, sy, Bool.false_eq_true, if_false] at h1
    unfold wrap64 at h1
    unfold oth
    simp only [Bool.false_eq_true, if_false]
    exact ⟨fun _ => by omega, by omega⟩
   ·simp only [sx, sy, if_true] at h1
    unfold wrap64 at h1
    unfold oth
    simp only [if_true]
    first
     | omega
     | exact ⟨fun h => (by cases h), by omega⟩
     | exact ⟨trivial, by omega⟩
     | exact ⟨fun _ => by omega, by omega⟩
  obtain ⟨o1, o2, o3⟩ := oth_ok hk.2 hk.1
  rw [o2, o3] at h2 h3
  unfold canB
  have g := place_has hk.2 h2
  have : gM xs M (oth c b) = true := gM_iff.2 ⟨g, by simpa using h3⟩
  rw [this, Bool.and_true]
  cases b
  ·simpa using hk.1 rfl
  ·rfl
def pre (xs : List Int) (M : List Dm) (c t : Nat) : List (List Dm) := if t = 0 then [] else if t = 1 then one xs M c false else one xs M c false ++ one xs M c true
theorem pre_step {xs : List Int} {M : List Dm} {c t : Nat} (ht : t < 2) : pre xs M c (t + 1) = pre xs M c t ++ one xs M c (decide (t = 1)) := by
 match t, ht with
 | 0, _ => simp [pre]
 | 1, _ => simp [pre]
theorem pre_full {xs : List Int} {M : List Dm} {c t : Nat} (ht : t ≤ 2) : ∃ Y, pre xs M c 2 = pre xs M c t ++ Y := by
 match t, ht with
 | 0, _ => exact ⟨_, by simp [pre]; rfl⟩
 | 1, _ => exact ⟨one xs M c true, by simp [pre]⟩
 | 2, _ => exact ⟨[], by simp⟩
theorem pre_stop {xs : List Int} {M : List Dm} {c t most : Nat} {L : List (List Dm)} (ht : t ≤ 2) (hL : L = (pre xs M c t).take most) (h : t = 2 ∨ most ≤ L.length) : L = (pre xs M c 2).take most := by
 rcases h with h | h
 ·rw [hL, h]
 ·obtain ⟨Y, e⟩ := pre_full (xs := xs) (M := M) (c := c) ht
  rw [e, take_two, hL]
  have hl : most ≤ (pre xs M c t).length := by rw [hL, List.length_take] at h; omega
  rw [show most - (pre xs M c t).length = 0 by omega, List.take_zero, List.append_nil]
theorem pre_more {xs : List Int} {M : List Dm} {c t most : Nat} {L : List (List Dm)} (ht : t < 2) (hL : L = (pre xs M c t).take most) (hlt : L.length < most) : (pre xs M c (t + 1)).take most = L ++ (one xs M c (decide (t = 1))).take (most - L.length) := by
 rw [pre_step ht, take_two, ← hL]
 congr 2
 rw [hL, List.length_take] at hlt ⊢
 omega
theorem cont_half {xs : List Int} (ho : okR xs) {M : List Dm} {k : Nat} (hb : Beg xs k M) (hk : k ≤ 64) (h0 : ∀ i, i < k → gM xs M i = false) : ∀ L ∈ cont xs M, L.length = (cellsR xs).length / 2 := by
 intro L hL
 unfold cont at hL
 obtain ⟨L', hL', rfl⟩ := List.mem_map.1 hL
 rw [LsG_from h0 hk] at hL'
 exact til_half (Ls_til ho (64 - k) k M (by omega) hb h0 L' hL')
end Go.Proofs.Ytjfagpmklifjlaa.Lis
