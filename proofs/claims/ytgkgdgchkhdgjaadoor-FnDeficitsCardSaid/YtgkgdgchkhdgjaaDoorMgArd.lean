/- Pop, PopI, ArP, Ard, DefI in one text. -/
import Derived.Test.YtgkgdgchkhdgjaaDoorSetP
import Derived.Test.YtgkgdgchkhdgjaaDoorMgDfL
import Derived.Test.YtgkgdgchkhdgjaaDoorBase
import Derived.Laws.Bits128
import Derived.Test.YtgkgdgchkhdgjaaDoorMgDfM
import Derived.Test.YtgkgdgchkhdgjaaDoorSetC
import Derived.Test.YtgkgdgchkhdgjaaDoorRegHas
import Derived.Test.YtgkgdgchkhdgjaaDoorNbM

/- The ones of a number of 64 bits, counted in parallel, pure: what the library's way comes to: no program here. -/
namespace Go.Proofs.YtgkgdgchkhdgjaaDoor.Sets
set_option linter.unusedVariables false
set_option linter.unusedSimpArgs false
open Go.Proofs.YtgkgdgchkhdgjaaDoor.Def (pl)

/-- how many of the first n bits are ones. -/
def onesN (n x : Nat) : Nat := ((List.range n).filter fun i => x.testBit i).length
theorem ones_split (n x : Nat) : onesN (8 + n) x = onesN 8 (x % 256) + onesN n (x / 256) := by
  unfold onesN
  rw [List.range_add, List.filter_append, List.length_append, List.filter_map, List.length_map]
  congr 1
  · congr 1
    refine List.filter_congr (fun i hi => ?_)
    have hi := List.mem_range.1 hi
    rw [show (256 : Nat) = 2 ^ 8 by decide, Nat.testBit_mod_two_pow]
    simp [hi]
  · congr 1
    refine List.filter_congr (fun i _ => ?_)
    show x.testBit (8 + i) = (x / 256).testBit i
    rw [show (256 : Nat) = 2 ^ 8 by decide, Nat.testBit_div_two_pow, Nat.add_comm]
theorem and_byte {p q s t : Nat} (hq : q < 256) (ht : t < 256) : (256 * p + q) &&& (256 * s + t) = 256 * (p &&& s) + (q &&& t) := by
  have hqt : q &&& t < 2 ^ 8 := Nat.lt_of_le_of_lt Nat.and_le_left (by omega)
  have e : (256 : Nat) = 2 ^ 8 := by decide
  have hq : q < 2 ^ 8 := by omega
  have ht : t < 2 ^ 8 := by omega
  rw [e]
  apply Nat.eq_of_testBit_eq
  intro i
  rw [Nat.testBit_and, Nat.testBit_two_pow_mul_add _ hq, Nat.testBit_two_pow_mul_add _ ht, Nat.testBit_two_pow_mul_add _ hqt]
  by_cases h : i < 8
  · rw [if_pos h, if_pos h, if_pos h, Nat.testBit_and]
  · rw [if_neg h, if_neg h, if_neg h, Nat.testBit_and]
/-- the first two steps. -/
def st1 (x m : Nat) : Nat := (x / 2 &&& m) + (x &&& m)
def st2 (x m : Nat) : Nat := (x / 4 &&& m) + (x &&& m)
def st3 (x m : Nat) : Nat := (x / 16 + x) &&& m
theorem low1 : ∀ h, h < 2 → ∀ q, q < 256 → (128 * h + q / 2) &&& 85 = (q / 2) &&& 85 := by decide +kernel
theorem low2 : ∀ h, h < 4 → ∀ q, q < 256 → (64 * h + q / 4) &&& 51 = (q / 4) &&& 51 := by decide +kernel
theorem st1_byte (p q s : Nat) (hq : q < 256) : st1 (256 * p + q) (256 * s + 85) = 256 * st1 p s + st1 q 85 := by
  unfold st1
  have e : (256 * p + q) / 2 = 256 * (p / 2) + (128 * (p % 2) + q / 2) := by omega
  rw [e, and_byte (by omega) (by omega), and_byte hq (by omega), low1 _ (by omega) _ hq]
  omega
theorem st2_byte (p q s : Nat) (hq : q < 256) : st2 (256 * p + q) (256 * s + 51) = 256 * st2 p s + st2 q 51 := by
  unfold st2
  have e : (256 * p + q) / 4 = 256 * (p / 4) + (64 * (p % 4) + q / 4) := by omega
  rw [e, and_byte (by omega) (by omega), and_byte hq (by omega), low2 _ (by omega) _ hq]
  omega
theorem byte_all : ∀ q, q < 256 → st1 q 85 < 256 ∧ st2 (st1 q 85) 51 < 256 ∧ st2 (st1 q 85) 51 % 16 < 5 ∧ ∀ h, h < 5 → 16 * h + st2 (st1 q 85) 51 / 16 + st2 (st1 q 85) 51 < 256 ∧ (16 * h + st2 (st1 q 85) 51 / 16 + st2 (st1 q 85) 51) &&& 15 = onesN 8 q := by decide +kernel
theorem ones8_le (x : Nat) : onesN 8 x ≤ 8 := by
  unfold onesN
  exact Nat.le_trans (List.length_filter_le _ _) (by simp)
/-- a step on the whole. -/
theorem st_step (x s1 s2 s3 : Nat) (h16 : st2 (st1 (x / 256) s1) s2 % 16 < 5) :
    st3 (st2 (st1 x (256 * s1 + 85)) (256 * s2 + 51)) (256 * s3 + 15) = 256 * st3 (st2 (st1 (x / 256) s1) s2) s3 + onesN 8 (x % 256) ∧ st2 (st1 x (256 * s1 + 85)) (256 * s2 + 51) % 16 < 5 := by
  obtain ⟨b1, b2, b3, b4⟩ := byte_all (x % 256) (by omega)
  have e : st2 (st1 x (256 * s1 + 85)) (256 * s2 + 51) = 256 * st2 (st1 (x / 256) s1) s2 + st2 (st1 (x % 256) 85) 51 := by
    have : x = 256 * (x / 256) + x % 256 := by omega
    conv => lhs; rw [this]
    rw [st1_byte _ _ _ (by omega), st2_byte _ _ _ b1]
  rw [e]
  generalize st2 (st1 (x / 256) s1) s2 = p at h16 ⊢
  generalize hq : st2 (st1 (x % 256) 85) 51 = q at b2 b3 b4 ⊢
  obtain ⟨c1, c2⟩ := b4 (p % 16) h16
  refine ⟨?_, by omega⟩
  unfold st3
  have e2 : (256 * p + q) / 16 + (256 * p + q) = 256 * (p / 16 + p) + (16 * (p % 16) + q / 16 + q) := by omega
  rw [e2, and_byte c1 (by omega), c2]
/-- eight bytes, one over the other. -/
def nest (c0 c1 c2 c3 c4 c5 c6 c7 : Nat) : Nat := c0 + 256 * (c1 + 256 * (c2 + 256 * (c3 + 256 * (c4 + 256 * (c5 + 256 * (c6 + 256 * c7))))))
/-- what the first three steps leave. -/
def vv (x s1 s2 s3 : Nat) : Nat := st3 (st2 (st1 x s1) s2) s3
def ok5 (x s1 s2 : Nat) : Prop := st2 (st1 x s1) s2 % 16 < 5
theorem vv_step {x s1 s2 s3 t1 t2 t3 : Nat} (e1 : t1 = 256 * s1 + 85) (e2 : t2 = 256 * s2 + 51) (e3 : t3 = 256 * s3 + 15) (h : ok5 (x / 256) s1 s2) :
    vv x t1 t2 t3 = onesN 8 (x % 256) + 256 * vv (x / 256) s1 s2 s3 ∧ ok5 x t1 t2 := by
  subst e1 e2 e3
  obtain ⟨a, b⟩ := st_step x s1 s2 s3 h
  exact ⟨a.trans (Nat.add_comm _ _), b⟩
theorem vv_base : vv 0 0 0 0 = 0 ∧ ok5 0 0 0 := by unfold vv ok5; decide
/-- the eight bytes' counts, side by side. -/
theorem st_all (x : Nat) (hx : x < 18446744073709551616) : ∃ c0 c1 c2 c3 c4 c5 c6 c7 : Nat, (c0 ≤ 8 ∧ c1 ≤ 8 ∧ c2 ≤ 8 ∧ c3 ≤ 8 ∧ c4 ≤ 8 ∧ c5 ≤ 8 ∧ c6 ≤ 8 ∧ c7 ≤ 8) ∧ onesN 64 x = c0 + (c1 + (c2 + (c3 + (c4 + (c5 + (c6 + c7)))))) ∧
    vv x 6148914691236517205 3689348814741910323 1085102592571150095 = nest c0 c1 c2 c3 c4 c5 c6 c7 := by
  have z : x / 256 / 256 / 256 / 256 / 256 / 256 / 256 / 256 = 0 := by omega
  obtain ⟨y1, hy1⟩ : ∃ y, y = x / 256 := ⟨_, rfl⟩
  obtain ⟨y2, hy2⟩ : ∃ y, y = y1 / 256 := ⟨_, rfl⟩
  obtain ⟨y3, hy3⟩ : ∃ y, y = y2 / 256 := ⟨_, rfl⟩
  obtain ⟨y4, hy4⟩ : ∃ y, y = y3 / 256 := ⟨_, rfl⟩
  obtain ⟨y5, hy5⟩ : ∃ y, y = y4 / 256 := ⟨_, rfl⟩
  obtain ⟨y6, hy6⟩ : ∃ y, y = y5 / 256 := ⟨_, rfl⟩
  obtain ⟨y7, hy7⟩ : ∃ y, y = y6 / 256 := ⟨_, rfl⟩
  obtain ⟨y8, hy8⟩ : ∃ y, y = y7 / 256 := ⟨_, rfl⟩
  rw [← hy1, ← hy2, ← hy3, ← hy4, ← hy5, ← hy6, ← hy7, ← hy8] at z
  have HO : onesN 64 x = onesN 8 (x % 256) + (onesN 8 (y1 % 256) + (onesN 8 (y2 % 256) + (onesN 8 (y3 % 256) + (onesN 8 (y4 % 256) + (onesN 8 (y5 % 256) + (onesN 8 (y6 % 256) + (onesN 8 (y7 % 256) + 0))))))) := by
    rw [show onesN 64 x = onesN (8 + 56) x from rfl, ones_split, ← hy1, show onesN 56 y1 = onesN (8 + 48) y1 from rfl, ones_split, ← hy2, show onesN 48 y2 = onesN (8 + 40) y2 from rfl, ones_split, ← hy3, show onesN 40 y3 = onesN (8 + 32) y3 from rfl, ones_split, ← hy4,
      show onesN 32 y4 = onesN (8 + 24) y4 from rfl, ones_split, ← hy5, show onesN 24 y5 = onesN (8 + 16) y5 from rfl, ones_split, ← hy6, show onesN 16 y6 = onesN (8 + 8) y6 from rfl, ones_split, ← hy7, show onesN 8 y7 = onesN (8 + 0) y7 from rfl, ones_split]
    rfl
  have h8 : ok5 (y7 / 256) 0 0 := by rw [← hy8, z]; exact vv_base.2
  obtain ⟨e7, h7⟩ := vv_step (s3 := 0) (t1 := 85) (t2 := 51) (t3 := 15) (by decide) (by decide) (by decide) h8
  rw [← hy8] at e7
  have e7 : vv y7 85 51 15 = onesN 8 (y7 % 256) := by
    rw [e7, z]
    show _ + 256 * vv 0 0 0 0 = _
    rw [vv_base.1, Nat.mul_zero, Nat.add_zero]
  rw [hy7] at h7
  obtain ⟨e6, h6⟩ := vv_step (s3 := 15) (t1 := 21845) (t2 := 13107) (t3 := 3855) (by decide) (by decide) (by decide) h7
  rw [← hy7] at e6
  rw [hy6] at h6
  obtain ⟨e5, h5⟩ := vv_step (s3 := 3855) (t1 := 5592405) (t2 := 3355443) (t3 := 986895) (by decide) (by decide) (by decide) h6
  rw [← hy6] at e5
  rw [hy5] at h5
  obtain ⟨e4, h4⟩ := vv_step (s3 := 986895) (t1 := 1431655765) (t2 := 858993459) (t3 := 252645135) (by decide) (by decide) (by decide) h5
  rw [← hy5] at e4
  rw [hy4] at h4
  obtain ⟨e3, h3⟩ := vv_step (s3 := 252645135) (t1 := 366503875925) (t2 := 219902325555) (t3 := 64677154575) (by decide) (by decide) (by decide) h4
  rw [← hy4] at e3
  rw [hy3] at h3
  obtain ⟨e2, h2⟩ := vv_step (s3 := 64677154575) (t1 := 93824992236885) (t2 := 56294995342131) (t3 := 16557351571215) (by decide) (by decide) (by decide) h3
  rw [← hy3] at e2
  rw [hy2] at h2
  obtain ⟨e1, h1⟩ := vv_step (s3 := 16557351571215) (t1 := 24019198012642645) (t2 := 14411518807585587) (t3 := 4238682002231055) (by decide) (by decide) (by decide) h2
  rw [← hy2] at e1
  rw [hy1] at h1
  obtain ⟨e0, h0⟩ := vv_step (s3 := 4238682002231055) (t1 := 6148914691236517205) (t2 := 3689348814741910323) (t3 := 1085102592571150095) (by decide) (by decide) (by decide) h1
  rw [← hy1] at e0
  rw [e1, e2, e3, e4, e5, e6, e7] at e0
  exact ⟨onesN 8 (x % 256), onesN 8 (y1 % 256), onesN 8 (y2 % 256), onesN 8 (y3 % 256), onesN 8 (y4 % 256), onesN 8 (y5 % 256), onesN 8 (y6 % 256), onesN 8 (y7 % 256), ⟨ones8_le _, ones8_le _, ones8_le _, ones8_le _, ones8_le _, ones8_le _, ones8_le _, ones8_le _⟩, HO, e0⟩
/-- digits of base 256, the least first. -/
def dig : List Nat → Nat
  | [] => 0
  | c :: r => c + 256 * dig r
theorem dig_div {c : Nat} {r : List Nat} (h : c < 256) : dig (c :: r) / 256 = dig r := by
  show (c + 256 * dig r) / 256 = _
  omega
theorem dig_add (a b : Nat) (r s : List Nat) (t : List Nat) (h : dig r + dig s = dig t) : dig (a :: r) + dig (b :: s) = dig ((a + b) :: t) := by
  show (a + 256 * dig r) + (b + 256 * dig s) = a + b + 256 * dig t
  omega
theorem dig_lt : ∀ (l : List Nat), (∀ c ∈ l, c ≤ 127) → 2 * dig l < 256 ^ l.length
  | [], _ => by decide
  | c :: r, h => by
    have h1 := dig_lt r (fun x hx => h x (List.mem_cons_of_mem _ hx))
    have h2 := h c (List.mem_cons_self ..)
    show 2 * (c + 256 * dig r) < 256 ^ (r.length + 1)
    rw [Nat.pow_succ]
    omega
theorem dig_bound {c0 c1 c2 c3 c4 c5 c6 c7 : Nat} (h : c0 ≤ 127 ∧ c1 ≤ 127 ∧ c2 ≤ 127 ∧ c3 ≤ 127 ∧ c4 ≤ 127 ∧ c5 ≤ 127 ∧ c6 ≤ 127 ∧ c7 ≤ 127) : dig [c0, c1, c2, c3, c4, c5, c6, c7] < 9223372036854775808 := by
  have h1 := dig_lt [c0, c1, c2, c3, c4, c5, c6, c7] (fun c hc => by
    simp only [List.mem_cons, List.not_mem_nil, or_false] at hc
    rcases hc with rfl | rfl | rfl | rfl | rfl | rfl | rfl | rfl <;> omega)
  have h2 : (256 : Nat) ^ [c0, c1, c2, c3, c4, c5, c6, c7].length = 18446744073709551616 := by
    show (256 : Nat) ^ 8 = _
    decide
  rw [h2] at h1
  omega
theorem nest_dig (c0 c1 c2 c3 c4 c5 c6 c7 : Nat) : nest c0 c1 c2 c3 c4 c5 c6 c7 = dig [c0, c1, c2, c3, c4, c5, c6, c7] := rfl
theorem dig_nil (r : List Nat) : dig r + dig [] = dig r := rfl
/-- the last steps: the eight counts added. -/
theorem sum_all {c0 c1 c2 c3 c4 c5 c6 c7 c : Nat} (hb : c0 ≤ 8 ∧ c1 ≤ 8 ∧ c2 ≤ 8 ∧ c3 ≤ 8 ∧ c4 ≤ 8 ∧ c5 ≤ 8 ∧ c6 ≤ 8 ∧ c7 ≤ 8) (hc : c = nest c0 c1 c2 c3 c4 c5 c6 c7) :
    ∃ d e f : Nat, d = c + c / 256 ∧ e = d + d / 65536 ∧ f = e + e / 4294967296 ∧ d < 9223372036854775808 ∧ e < 9223372036854775808 ∧ f < 9223372036854775808 ∧ f % 128 = c0 + (c1 + (c2 + (c3 + (c4 + (c5 + (c6 + c7)))))) := by
  obtain ⟨d, hd⟩ : ∃ d, d = c + c / 256 := ⟨_, rfl⟩
  obtain ⟨e, he⟩ : ∃ e, e = d + d / 65536 := ⟨_, rfl⟩
  obtain ⟨f, hf⟩ : ∃ f, f = e + e / 4294967296 := ⟨_, rfl⟩
  have hd2 : d = dig [c0 + c1, c1 + c2, c2 + c3, c3 + c4, c4 + c5, c5 + c6, c6 + c7, c7] := by
    rw [hd, hc, nest_dig, dig_div (by omega)]
    exact dig_add _ _ _ _ _ (dig_add _ _ _ _ _ (dig_add _ _ _ _ _ (dig_add _ _ _ _ _ (dig_add _ _ _ _ _ (dig_add _ _ _ _ _ (dig_add _ _ _ _ _ (dig_nil _)))))))
  have he2 : e = dig [(c0 + c1) + (c2 + c3), (c1 + c2) + (c3 + c4), (c2 + c3) + (c4 + c5), (c3 + c4) + (c5 + c6), (c4 + c5) + (c6 + c7), (c5 + c6) + c7, c6 + c7, c7] := by
    rw [he, hd2, show (65536 : Nat) = 256 * 256 by decide, ← Nat.div_div_eq_div_mul, dig_div (by omega), dig_div (by omega)]
    exact dig_add _ _ _ _ _ (dig_add _ _ _ _ _ (dig_add _ _ _ _ _ (dig_add _ _ _ _ _ (dig_add _ _ _ _ _ (dig_add _ _ _ _ _ (dig_nil _))))))
  have hf2 : f = dig [(c0 + c1) + (c2 + c3) + ((c4 + c5) + (c6 + c7)), (c1 + c2) + (c3 + c4) + ((c5 + c6) + c7), (c2 + c3) + (c4 + c5) + (c6 + c7), (c3 + c4) + (c5 + c6) + c7, (c4 + c5) + (c6 + c7), (c5 + c6) + c7, c6 + c7, c7] := by
    rw [hf, he2, show (4294967296 : Nat) = 256 * 256 * 256 * 256 by decide, ← Nat.div_div_eq_div_mul, ← Nat.div_div_eq_div_mul, ← Nat.div_div_eq_div_mul, dig_div (by omega), dig_div (by omega), dig_div (by omega), dig_div (by omega)]
    exact dig_add _ _ _ _ _ (dig_add _ _ _ _ _ (dig_add _ _ _ _ _ (dig_add _ _ _ _ _ (dig_nil _))))
  refine ⟨d, e, f, hd, he, hf, ?_, ?_, ?_, ?_⟩
  · rw [hd2]; exact dig_bound (by omega)
  · rw [he2]; exact dig_bound (by omega)
  · rw [hf2]; exact dig_bound (by omega)
  · rw [hf2]
    generalize hT : [(c1 + c2) + (c3 + c4) + ((c5 + c6) + c7), (c2 + c3) + (c4 + c5) + (c6 + c7), (c3 + c4) + (c5 + c6) + c7, (c4 + c5) + (c6 + c7), (c5 + c6) + c7, c6 + c7, c7] = T
    show ((c0 + c1) + (c2 + c3) + ((c4 + c5) + (c6 + c7)) + 256 * dig T) % 128 = _
    generalize dig T = t
    clear hT hf2 he2 hd2 hd he hf hc
    omega
theorem ones_pl (x : Nat) : onesN 64 x = (pl (bt x)).length := rfl
/-- all of it, as numbers. -/
theorem pop_all (x : Nat) (hx : x < 18446744073709551616) : ∃ a b c d e f : Nat, a = (x / 2 &&& 6148914691236517205) + (x &&& 6148914691236517205) ∧ b = (a / 4 &&& 3689348814741910323) + (a &&& 3689348814741910323) ∧ c = (b / 16 + b) &&& 1085102592571150095 ∧
    d = c + c / 256 ∧ e = d + d / 65536 ∧ f = e + e / 4294967296 ∧ a < 18446744073709551616 ∧ b < 9223372036854775808 ∧ d < 9223372036854775808 ∧ e < 9223372036854775808 ∧ f < 9223372036854775808 ∧ f % 128 = (pl (bt x)).length := by
  obtain ⟨c0, c1, c2, c3, c4, c5, c6, c7, hb, hs, hc⟩ := st_all x hx
  obtain ⟨d, e, f, hd, he, hf, h1, h2, h3, h4⟩ := sum_all hb hc
  refine ⟨_, _, _, d, e, f, rfl, rfl, rfl, hd, he, hf, ?_, ?_, h1, h2, h3, by rw [h4, ← ones_pl, hs]⟩
  · have h1 : x / 2 &&& 6148914691236517205 ≤ 6148914691236517205 := Nat.and_le_right
    have h2 : x &&& 6148914691236517205 ≤ 6148914691236517205 := Nat.and_le_right
    omega
  · have h1 : ∀ y, y &&& 3689348814741910323 ≤ 3689348814741910323 := fun y => Nat.and_le_right
    have h2 := h1 (((x / 2 &&& 6148914691236517205) + (x &&& 6148914691236517205)) / 4)
    have h3 := h1 ((x / 2 &&& 6148914691236517205) + (x &&& 6148914691236517205))
    omega
end Go.Proofs.YtgkgdgchkhdgjaaDoor.Sets

/- The ones of a number, the program's: OnesCount64, and how many cells a set has. -/
namespace Go.Proofs.YtgkgdgchkhdgjaaDoor.Sets
set_option linter.unusedVariables false
set_option linter.unusedSimpArgs false
set_option maxRecDepth 100000
open Go.RowKit Go.Proofs.YtgkgdgchkhdgjaaDoor.Base Go.Joins
open Go.Proofs.YtgkgdgchkhdgjaaDoor.Def (pl)

theorem shr_is (y k : Nat) (hk : k ≤ 64) : Op.shift .shr .u64 (y : Int) .u64 (k : Int) = pure (.int .u64 ((y / 2 ^ k : Nat) : Int)) := by
  rw [shift_shr .u64 .u64 (y : Int) (k : Int) (by omega) (by show (k : Int) ≤ 64; omega), Int.toNat_natCast]
  have : ((y / 2 ^ k : Nat) : Int) = (y : Int) / 2 ^ k := by simp
  rw [this]
theorem wrapU {y : Nat} (h : y < 18446744073709551616) : IntKind.u64.wrap (y : Int) = (y : Int) := by
  rw [IntKind.wrap_u64]; omega
set_option maxHeartbeats 1000000 in
theorem iOnes_core (x a b c0 c d e f r : Int) (w : World)
    (h1 : IntKind.u64.wrap (bits BinOp.and IntKind.u64 (x / 2) 6148914691236517205 + bits BinOp.and IntKind.u64 x 6148914691236517205) = a)
    (h2 : IntKind.u64.wrap (bits BinOp.and IntKind.u64 (a / 4) 3689348814741910323 + bits BinOp.and IntKind.u64 a 3689348814741910323) = b)
    (h3 : IntKind.u64.wrap (b / 16 + b) = c0) (h4 : bits BinOp.and IntKind.u64 c0 1085102592571150095 = c)
    (h5 : IntKind.u64.wrap (c + c / 256) = d) (h6 : IntKind.u64.wrap (d + d / 65536) = e) (h7 : IntKind.u64.wrap (e + e / 4294967296) = f)
    (h8 : bits BinOp.and IntKind.i64 (wrap64 f) 127 = r) :
    Calls Tryd.prog 66 #[.int .u64 x] w fun e w' => e = .returned (.int .i64 r) ∧ w' = w := by
  go_enter Tryd.func66, Tryd.ntmps66
  go_wp2
  try simp only [h1, h2, h3, h4, h5, h6, h7, h8]
  go_ret
  exact ⟨rfl, rfl⟩
theorem u64_of {y z : Nat} (e : y = z) (h : z < 18446744073709551616) : IntKind.u64.wrap (y : Int) = (z : Int) := by rw [e]; exact wrapU h
theorem iOnes (x : Nat) (hx : x < 18446744073709551616) (w : World) :
    Calls Tryd.prog 66 #[.int .u64 (x : Int)] w fun e w' => e = .returned (.int .i64 ((pl (bt x)).length : Int)) ∧ w' = w := by
  obtain ⟨a, b, c, d, e, f, ha, hb, hc, hd, he, hf, la, lb, ld, le, lf, hr⟩ := pop_all x hx
  refine iOnes_core (x : Int) a b ((b / 16 + b : Nat) : Int) c d e f _ w ?_ ?_ ?_ ?_ ?_ ?_ ?_ ?_
  · rw [show (x : Int) / 2 = ((x / 2 : Nat) : Int) by omega, show (6148914691236517205 : Int) = ((6148914691236517205 : Nat) : Int) by rfl, u64_and_nat _ _ (by omega) (by decide), u64_and_nat _ _ hx (by decide), ← Int.natCast_add]
    exact u64_of ha.symm la
  · rw [show (a : Int) / 4 = ((a / 4 : Nat) : Int) by omega, show (3689348814741910323 : Int) = ((3689348814741910323 : Nat) : Int) by rfl, u64_and_nat _ _ (by omega) (by decide), u64_and_nat _ _ la (by decide), ← Int.natCast_add]
    exact u64_of hb.symm (by omega)
  · rw [show (b : Int) / 16 + (b : Int) = ((b / 16 + b : Nat) : Int) by omega]
    exact wrapU (by omega)
  · rw [show (1085102592571150095 : Int) = ((1085102592571150095 : Nat) : Int) by rfl, u64_and_nat _ _ (by omega) (by decide), hc]
  · rw [show (c : Int) + (c : Int) / 256 = ((c + c / 256 : Nat) : Int) by omega]
    exact u64_of hd.symm (by omega)
  · rw [show (d : Int) + (d : Int) / 65536 = ((d + d / 65536 : Nat) : Int) by omega]
    exact u64_of he.symm (by omega)
  · rw [show (e : Int) + (e : Int) / 4294967296 = ((e + e / 4294967296 : Nat) : Int) by omega]
    exact u64_of hf.symm (by omega)
  · clear ha hb hc hd he hf la lb ld le
    rw [i64_and127, ← hr]
    clear hr
    unfold wrap64
    omega
/-- how many cells a set has. -/
theorem iCount (x : Nat) (hx : x < 18446744073709551616) (w : World) :
    Calls Tryd.prog 40 #[.int .u64 (x : Int)] w fun e w' => e = .returned (.int .i64 ((pl (bt x)).length : Int)) ∧ w' = w := by
  have HO := Lib.hid (fun W => iOnes x hx W)
  generalize (pl (bt x)).length = r at HO ⊢
  clear hx
  go_enter Tryd.func40, Tryd.ntmps40
  go_wp2_with fail
  refine (HO.out _).mono ?_
  rintro e w1 ⟨rfl, rfl⟩
  go_wp2
  go_ret
  exact ⟨rfl, rfl⟩
end Go.Proofs.YtgkgdgchkhdgjaaDoor.Sets

/- aroundBlacks, the program's: the set of some black cells, and that of the cells beside them. -/
namespace Go.Proofs.YtgkgdgchkhdgjaaDoor.Def
set_option linter.unusedVariables false
set_option linter.unusedSimpArgs false
set_option maxRecDepth 100000
open Go.RowKit Go.Proofs.YtgkgdgchkhdgjaaDoor.Base Go.Proofs.YtgkgdgchkhdgjaaDoor.Pure Go.Proofs.YtgkgdgchkhdgjaaDoor.Cell Go.Proofs.YtgkgdgchkhdgjaaDoor.Cels Go.Proofs.YtgkgdgchkhdgjaaDoor.Dom Go.Proofs.YtgkgdgchkhdgjaaDoor.Dms Go.Proofs.YtgkgdgchkhdgjaaDoor.Sets Go.Proofs.YtgkgdgchkhdgjaaDoor.Kun Go.Proofs.YtgkgdgchkhdgjaaDoor.KuL Go.Proofs.YtgkgdgchkhdgjaaDoor.Til Go.Proofs.YtgkgdgchkhdgjaaDoor.Mat Go.Joins
open Go.Proofs.YtgkgdgchkhdgjaaDoor.Cnt (adj gR adj_comm)
open Go.Proofs.YtgkgdgchkhdgjaaDoor.Nb (nbTo)
open Go.Proofs.YtgkgdgchkhdgjaaDoor.Reg hiding Yes add_none RC rc_start

/-- the cells beside the first k. -/
def Wk (L : List (Int × Int)) (k x : Nat) : Prop := x < 18446744073709551616 ∧ ∀ i, i < 64 → bt x i = arL (L.take k) (plc i)
theorem Wk.zero (L : List (Int × Int)) : Wk L 0 0 := ⟨by omega, fun i _ => by rw [bt_zero]; rfl⟩
theorem nbs_lt (v : Nat) : setN (nbN v) < 18446744073709551616 := set_lt (fun k hk => (mem_nbN.1 hk).1)
theorem Wk.next {L : List (Int × Int)} {k x v : Nat} (h : Wk L k x) (hk : k < L.length) (hv : v < 64) (e : L[k] = plc v) : Wk L (k + 1) (x ||| setN (nbN v)) := by
  refine ⟨or_lt h.1 (nbs_lt v), fun i hi => ?_⟩
  rw [Sets.bt_or, bt_set, h.2 i hi, List.take_succ_eq_append_getElem hk]
  unfold arL
  rw [List.any_append, e]
  congr 1
  show _ = (nbB (plc i).1 (plc i).2 (plc v).1 (plc v).2 || false)
  rw [Bool.or_false, show nbB (plc i).1 (plc i).2 (plc v).1 (plc v).2 = adj i v from nb_adj hi hv, Bool.eq_iff_iff, decide_eq_true_eq, mem_nbN, adj_comm]
  exact ⟨fun h => h.2, fun h => ⟨hi, h⟩⟩
theorem hasB_Ok {xs : List Int} {x y : Int} (h : hasB xs x y = true) : Ok x y := by
  have := hasB_iff.1 h
  unfold Ok; omega
/-- black cells of a region have places. -/
theorem ok_places : ∀ {xs : List Int} {L : List (Int × Int)}, okBl xs L = true → ∃ S : List Nat, L = S.map plc ∧ ∀ u ∈ S, Blk xs u = true := by
  intro xs L h
  obtain ⟨ho, h⟩ := okBl_iff.1 h
  have ho := okRB_iff.1 ho
  refine ⟨L.map fun c => (c.2 * 8 + c.1).toNat, ?_, fun u hu => ?_⟩
  · rw [List.map_map]
    conv => lhs; rw [← List.map_id L]
    refine List.map_congr_left (fun c hc => ?_)
    obtain ⟨k, hk, e, e2⟩ := ok_place (hasB_Ok (h c hc).1)
    show c = plc (c.2 * 8 + c.1).toNat
    rw [e2]; exact e
  · obtain ⟨c, hc, rfl⟩ := List.mem_map.1 hu
    obtain ⟨k, hk, e, e2⟩ := ok_place (hasB_Ok (h c hc).1)
    have hb := h c hc
    rw [e2]
    have e : c = plc k := e
    rw [e] at hb
    rw [blk_iff, ← reg_plc ho hk, ← col_black hk]
    exact hb
/-- as many places as different cells. -/
theorem pl_count (S : List Nat) (h : ∀ u ∈ S, u < 64) : ∀ k, k ≤ S.length → (pl fun i => decide (i ∈ S.take k)).length = difK (S.map plc) k
  | 0, _ => by
    have : (pl fun i => decide (i ∈ S.take 0)) = [] := by
      unfold pl; rw [List.filter_eq_nil_iff]; intro a _; simp
    rw [this]; rfl
  | k + 1, hk => by
    have ih := pl_count S h k (by omega)
    have hkl : k < (S.map plc).length := by rw [List.length_map]; omega
    have hm : (S.map plc)[k] ∈ (S.map plc).take k ↔ S[k] ∈ S.take k := by
      rw [List.getElem_map, ← List.map_take, List.mem_map]
      exact ⟨fun ⟨a, ha, e⟩ => plc_eq e ▸ ha, fun h => ⟨_, h, rfl⟩⟩
    have ht : ∀ i, i ∈ S.take (k + 1) ↔ i ∈ S.take k ∨ i = S[k] := fun i => by
      rw [List.take_succ_eq_append_getElem (by omega), List.mem_append, List.mem_singleton]
    by_cases hq : S[k] ∈ S.take k
    · rw [difK_old hkl (hm.2 hq), ← ih]
      congr 1
      refine pl_congr (fun i _ => ?_)
      rw [Bool.eq_iff_iff, decide_eq_true_eq, decide_eq_true_eq, ht]
      exact ⟨fun h => h.elim id (fun e => e ▸ hq), .inl⟩
    · rw [difK_new hkl (fun q => hq (hm.1 q)), ← ih]
      unfold pl
      refine filter_one (a := S[k]) (by simpa using hq) (by simp [ht]) (fun x hx => ?_) _ List.nodup_range (List.mem_range.2 (h _ (List.getElem_mem _)))
      rw [Bool.eq_iff_iff, decide_eq_true_eq, decide_eq_true_eq, ht]
      exact ⟨.inl, fun h => h.elim id (fun e => absurd e hx)⟩
theorem set_count (S : List Nat) (h : ∀ u ∈ S, u < 64) : (pl (bt (setN S))).length = difN (S.map plc) := by
  have := pl_count S h S.length (Nat.le_refl _)
  rw [List.take_length] at this
  unfold difN
  rw [List.length_map, ← this]
  congr 1
  exact pl_congr (fun i _ => bt_set S i)
/-- the cells of a set. -/
theorem out_pl (Z : Nat → Bool) : ((List.range 64).filter Z).map plc = (pl Z).map plc := rfl
theorem whites_are {xs : List Int} {L : List (Int × Int)} (h : okBl xs L = true) {x : Nat} (hx : Wk L L.length x) : (pl (bt (x &&& setN (idl xs)))).map plc = whtR xs L := by
  rw [whtR_ok h, idl_cells, List.filter_map]
  congr 1
  unfold idl pl
  rw [if_pos (okBl_iff.1 h).1]
  unfold Cnt.idxs
  rw [List.filter_filter]
  refine List.filter_congr (fun i hi => ?_)
  have hi := List.mem_range.1 hi
  rw [Sets.bt_and, bt_set, hx.2 i hi, List.take_length]
  congr 1
  rw [Bool.eq_iff_iff, decide_eq_true_eq, List.mem_filter, List.mem_range]
  exact ⟨fun h => h.2, fun h => ⟨hi, h⟩⟩
theorem idl_lt (xs : List Int) : ∀ u ∈ idl xs, u < 64 := fun u hu => (idl_mem hu).1
/-- two sets as an answer. -/
def ArPost (xs : List Int) (L : List (Int × Int)) (w : World) (e : Ending) (w' : World) : Prop :=
  ∃ X Y : Nat, e = .returned (.tuple #[.int .u64 (X : Int), .int .u64 (Y : Int)]) ∧ X < 18446744073709551616 ∧ Y < 18446744073709551616 ∧ ((pl (bt X)).length : Int) - ((pl (bt Y)).length : Int) = defR xs L ∧ (pl (bt Y)).map plc = whtR xs L ∧ Below w.heap.size w w'
theorem pl_none : pl (bt 0) = [] := by
  unfold pl; rw [List.filter_eq_nil_iff]; intro a _; rw [bt_zero]; simp
theorem ar_not {xs : List Int} {L : List (Int × Int)} (h : okBl xs L = false) : ((pl (bt 0)).length : Int) - ((pl (bt 0)).length : Int) = defR xs L ∧ (pl (bt 0)).map plc = whtR xs L := by
  rw [defR_not h, whtR_not h, pl_none]; exact ⟨rfl, rfl⟩
theorem ar_yes {xs : List Int} {L : List (Int × Int)} (h : okBl xs L = true) {S : List Nat} (hS : L = S.map plc) (h64 : ∀ u ∈ S, u < 64) {x : Nat} (hx : Wk L L.length x) :
    ((pl (bt (setN S))).length : Int) - ((pl (bt (x &&& setN (idl xs)))).length : Int) = defR xs L ∧ (pl (bt (x &&& setN (idl xs)))).map plc = whtR xs L := by
  have e := whites_are h hx
  refine ⟨?_, e⟩
  rw [defR_ok h, set_count S h64, ← hS, ← e, List.length_map]
end Go.Proofs.YtgkgdgchkhdgjaaDoor.Def

/- aroundBlacks, the program's: the walk. -/
namespace Go.Proofs.YtgkgdgchkhdgjaaDoor.Def
set_option linter.unusedVariables false
set_option linter.unusedSimpArgs false
set_option maxRecDepth 100000
open Go.RowKit Go.Proofs.YtgkgdgchkhdgjaaDoor.Base Go.Proofs.YtgkgdgchkhdgjaaDoor.Pure Go.Proofs.YtgkgdgchkhdgjaaDoor.Cell Go.Proofs.YtgkgdgchkhdgjaaDoor.Cels Go.Proofs.YtgkgdgchkhdgjaaDoor.Dom Go.Proofs.YtgkgdgchkhdgjaaDoor.Dms Go.Proofs.YtgkgdgchkhdgjaaDoor.Sets Go.Proofs.YtgkgdgchkhdgjaaDoor.Kun Go.Proofs.YtgkgdgchkhdgjaaDoor.KuL Go.Proofs.YtgkgdgchkhdgjaaDoor.Til Go.Proofs.YtgkgdgchkhdgjaaDoor.Mat Go.Joins
open Go.Proofs.YtgkgdgchkhdgjaaDoor.Cnt (adj gR adj_comm)
open Go.Proofs.YtgkgdgchkhdgjaaDoor.Nb (nbTo)
open Go.Proofs.YtgkgdgchkhdgjaaDoor.Reg hiding Yes add_none RC rc_start

/-- where black cells lie that have places: the first k of them. -/
theorem RowK.rdC {w : World} {B : Nat} {A : Option Addr} {L : List (Int × Int)} (h : RowK w B A L) (hB : B ≤ w.heap.size) : ∃ b off, (0 < L.length → A = some ⟨b, off, none⟩ ∧ b < B) ∧ RdC w b off L := by
  obtain ⟨b, off, h1, h2⟩ := h
  exact ⟨b, off, h1, fun h0 => by have := (h1 h0).2; omega, h2⟩
/-- cells of places as an answer. -/
def CelPost (js : List Nat) (w : World) (e : Ending) (w' : World) : Prop := ∃ A cap b off, e = .returned (.slice A js.length cap) ∧ (0 < js.length → A = some ⟨b, off, none⟩) ∧ RdC w' b off (js.map plc) ∧ Below w.heap.size w w'
theorem nb_cel {js : List Nat} {w : World} {e : Ending} {w' : World} (h : Nb.NbPost (js.map plc) w e w') : CelPost js w e w' := by
  obtain ⟨A, cap, rfl, hown, hb⟩ := h
  obtain ⟨b, off, hA, hR⟩ := Nb.rowC_own hown
  rw [List.length_map] at hA ⊢
  exact ⟨A, cap, b, off, rfl, fun h0 => (hA h0).1, ⟨fun h0 => (hA (by rw [List.length_map] at h0; exact h0)).2, hR⟩, hb⟩
theorem cel_cel {js : List Nat} {w : World} {e : Ending} {w' : World} (h : Cels.NbPost (js.map plc) w e w') : CelPost js w e w' := by
  obtain ⟨A, cap, rfl, hown, hb⟩ := h
  obtain ⟨b, off, hA, hR⟩ := Cels.rowC_own hown
  rw [List.length_map] at hA ⊢
  exact ⟨A, cap, b, off, rfl, fun h0 => (hA h0).1, ⟨fun h0 => (hA (by rw [List.length_map] at h0; exact h0)).2, hR⟩, hb⟩
set_option maxHeartbeats 4000000 in
theorem iAround (w : World) (A : Option Addr) (n cap B : Nat) (xs : List Int) (hx : xs.length = n) (hn : (n : Int) ≤ 9223372036854775807) (h : RowB w B A xs) (hB : B ≤ w.heap.size)
    (A' : Option Addr) (m cap' B' : Nat) (L : List (Int × Int)) (hL : L.length = m) (hm : (m : Int) ≤ 1048576) (h' : RowK w B' A' L) (hB' : B' ≤ w.heap.size) :
    Calls Tryd.prog 39 #[.agg #[.slice A n cap], .slice A' m cap'] w (ArPost xs L w) := by
  have HOk := Lib.hid (fun W (hb : RB w (.slice A n cap) W) => iRegionOk W A n cap B xs hx hn (h.below hb.1 hB) (by have := hb.2.1; omega))
  have HHs := Lib.hid (fun W (hb : RB w (.slice A n cap) W) x y => iHasCell W A n cap B xs hx hn (h.below hb.1 hB) (by have := hb.2.1; omega) x y)
  have HC := Lib.hid (fun W (hb : RB w (.slice A n cap) W) => show Calls Tryd.prog 55 #[.agg #[.slice A n cap]] W (CelPost (idl xs) W) from (idl_cells xs ▸ iCellsOf W A n cap B xs hx hn (h.below hb.1 hB) (by have := hb.2.1; omega)).mono (fun e w' q => cel_cel q))
  have T0 := Lib.hid (fun (T : TypeId) => rb_start (T := T) (.slice A n cap) w)
  have HNo := Lib.hid (fun (hq : okBl xs L = false) => ar_not hq)
  cases hok : okRB xs with
  | false =>
    have HE := Lib.hid (HNo.out (by unfold okBl; rw [hok]; rfl))
    rw [hok] at HOk
    clear hx hn h hB hL hm h' hB' HHs HC HNo hok
    go_enter Tryd.func39, Tryd.ntmps39
    go_wp2_with fail
    have T1 := T0.out 26
    refine (HOk.out _ T1).mono ?_
    rintro e w1 ⟨rfl, hb1⟩
    have T2 := T1.on hb1
    clear HOk T0 T1 hb1
    go_wp2
    exact bodyPost_ret (v := .tuple #[.int .u64 0, .int .u64 0]) (by simp [results, Tryd.results39, go_sem]) rfl ⟨0, 0, rfl, by omega, by omega, HE.out.1, HE.out.2, T2.1⟩
  | true =>
    obtain ⟨b, off, hA2, hR2⟩ := h'.rdC hB'
    have ho := okRB_iff.1 hok
    have HA2 := Lib.hid (fun (h0 : 0 < m) => hA2 (by omega))
    have HSB := Lib.hid (fun (hq : okBl xs L = true) => ok_places hq)
    have HFin := Lib.hid (fun (hq : OkK xs L m) => show okBl xs L = true from (hq.fin (by omega)).trans hok)
    have HYes := Lib.hid (fun (hq : okBl xs L = true) S (hS : L = S.map plc) (h64 : ∀ u ∈ S, u < 64) x (hx : Wk L m x) => ar_yes hq hS h64 (hL.symm ▸ hx))
    have HNv := Lib.hid (fun v (hv : v < 64) W => show Calls Tryd.prog 32 #[.agg #[.int .i64 (plc v).1, .int .i64 (plc v).2]] W (CelPost (nbN v) W) from (nb_is hv ▸ Nb.implNb (plc v).1 (plc v).2 W).mono (fun e w' q => nb_cel q))
    have HSt := Lib.hid (fun W b1 off1 A1 c1 js (hj : ∀ j ∈ js, j < 64) (hl : (js.length : Int) ≤ 1048576) (hA : 0 < js.length → A1 = some ⟨b1, off1, none⟩) (R : RdC W b1 off1 (js.map plc)) => iSetOf W A1 js.length c1 b1 off1 (js.map plc) js rfl hj rfl hl hA R)
    have HL := Lib.hid hL
    have HR2 := Lib.hid hR2
    rw [hok] at HOk
    have HB' := Lib.hid (fun W (hb : Below w.heap.size w W) => show RdC W b off L from hR2.on hb)
    have hml := hm
    clear hA2 hR2 hm h' hB' hB h hx hn hok
    go_enter Tryd.func39, Tryd.ntmps39
    go_wp2_with fail
    have T1 := T0.out 26
    refine (HOk.out _ T1).mono ?_
    rintro e w1 ⟨rfl, hb1⟩
    have T2 := T1.on hb1
    have HT2 := Lib.hid T2
    clear HOk T0 T1 hb1 T2
    go_wp2_with fail
    go_loopw [6, 14] (fun v i wr => ∃ (k x : Nat), k ≤ m ∧ i = .int .i64 k ∧ v = .int .u64 (x : Int) ∧ Hid (OkK xs L k ∧ Wk L k x) ∧ RB w (.slice A n cap) wr) (fun _ i _ => m - (intOf i).toNat)
    case atStart => exact ⟨0, 0, Nat.zero_le _, rfl, rfl, Lib.hid ⟨OkK.zero xs L, Wk.zero L⟩, HT2.out⟩
    case round =>
      clear HT2
      obtain ⟨k, x, hk, rfl, rfl, HI, hT⟩ := hrel
      by_cases hlt : k < m
      · have hkL : k < L.length := by rw [HL.out]; exact hlt
        obtain ⟨rfl, hbB⟩ := HA2.out (by omega)
        obtain ⟨c0, c1⟩ := (HB'.out wr hT.1).2 k L[k] (List.getElem?_eq_getElem hkL)
        have HNx := Lib.hid (fun hh hq => HI.out.1.next hkL hh hq)
        have HWn := Lib.hid (fun v (hv : v < 64) (e : L[k] = plc v) => HI.out.2.next hkL hv e)
        have HBad := Lib.hid (fun hh => HNo.out (okBl_no hkL hh))
        have HPl := Lib.hid (fun (hh : hasB xs L[k].1 L[k].2 = true) => ok_place (hasB_Ok hh))
        have hxl := HI.out.2.1
        generalize L[k] = p at c0 c1 HNx HWn HBad HPl
        obtain ⟨u, v⟩ := p
        simp only at c0 c1 HNx HBad HPl
        have HBl := Lib.hid (fun W => CellF.iIsBlack u v W)
        have HHc := Lib.hid (fun W hb => HHs.out W hb u v)
        have T3 := hT.on (below_alloc1 wr (.cells #[.int .i64 u, .int .i64 v] 33))
        have Z3 := At2.new wr u v
        clear HI
        go_upto_region 7 with fail
        generalize wr.alloc (.cells #[.int .i64 u, .int .i64 v] 33) = W3 at T3 Z3 ⊢
        generalize wr.heap.size = zb at Z3 ⊢
        clear c0 c1 hT
        have d0 := Z3.c0
        have d1 := Z3.c1
        go_wp2_with fail
        refine (HBl.out _).mono ?_
        rintro e w4 ⟨rfl, hb4⟩
        have T4 := T3.on hb4
        have Z4 := Z3.on hb4
        clear HBl T3 Z3 d0 d1 hb4
        generalize hbl : blackB u v = bl at *
        cases bl with
        | false =>
          have HE := Lib.hid (HBad.out (by rw [Bool.and_false]))
          clear HBad HNx HWn HPl
          go_wp2
          exact bodyPost_ret (v := .tuple #[.int .u64 0, .int .u64 0]) (by simp [results, Tryd.results39, go_sem]) rfl ⟨0, 0, rfl, by omega, by omega, HE.out.1, HE.out.2, T4.1⟩
        | true =>
          have d0 := Z4.c0
          have d1 := Z4.c1
          have r0 := T4.2.2
          go_wp2_with fail
          refine (HHc.out _ T4).mono ?_
          rintro e w5 ⟨rfl, hb5⟩
          have T5 := T4.on hb5
          have Z5 := Z4.on hb5
          clear HHc T4 Z4 d0 d1 r0 hb5
          generalize hhs : hasB xs u v = hs at *
          cases hs with
          | false =>
            have HE := Lib.hid (HBad.out (by rw [Bool.false_and]))
            clear HBad HNx HWn HPl
            go_wp2
            exact bodyPost_ret (v := .tuple #[.int .u64 0, .int .u64 0]) (by simp [results, Tryd.results39, go_sem]) rfl ⟨0, 0, rfl, by omega, by omega, HE.out.1, HE.out.2, T5.1⟩
          | true =>
            obtain ⟨j, hj, ej, _⟩ := HPl.out (by trivial)
            have HOk1 := Lib.hid (HNx.out (by trivial) (by trivial))
            have HWk1 := Lib.hid (HWn.out j hj ej)
            have HNb := Lib.hid (fun W => HNv.out j hj W)
            rw [show (plc j).1 = u from by rw [← ej], show (plc j).2 = v from by rw [← ej]] at HNb
            have HJ4 := nb_len ⟨j, hj⟩
            have HSj := Lib.hid (fun W b1 off1 A1 c1 hA R => HSt.out W b1 off1 A1 c1 (nbN j) (fun i hi => (mem_nbN.1 hi).1) (by have := nb_len ⟨j, hj⟩; simp only at this; omega) hA R)
            have hor := u64_or_nat x (setN (nbN j)) hxl (nbs_lt j)
            clear HBad HNx HWn HPl ej HJ4
            have d0 := Z5.c0
            have d1 := Z5.c1
            obtain ⟨q, hq⟩ : ∃ q : Int, q = ((setN (nbN j) : Nat) : Int) := ⟨_, rfl⟩
            unfold SetE at HSj
            rw [← hq] at hor HSj
            obtain ⟨y, hy⟩ : ∃ y, y = x ||| setN (nbN j) := ⟨_, rfl⟩
            rw [← hy] at hor HWk1
            clear hq hy
            go_wp2_with fail
            refine (HNb.out _).mono ?_
            rintro e w6 ⟨A6, cap6, b6, off6, rfl, hA6, hR6, hb6⟩
            have T6 := T5.on hb6
            have HSx := Lib.hid (HSj.out w6 b6 off6 A6 cap6 hA6 hR6)
            clear T5 Z5 d0 d1 hb6 hA6 hR6 HSj HNb
            go_wp2_with fail
            refine HSx.out.mono ?_
            rintro e w7 ⟨rfl, hb7⟩
            have T7 := T6.on hb7
            clear T6 hb7 HSx
            go_wp2
            go_roundw
            case rel => exact ⟨k + 1, y, by omega, by go_num, rfl, Lib.hid ⟨HOk1.out, HWk1.out⟩, T7⟩
            case measure => (simp [intOf] <;> omega)
      · obtain rfl : k = m := by omega
        have hq := HFin.out HI.out.1
        obtain ⟨S, hS, hSb⟩ := HSB.out hq
        have h64 : ∀ u ∈ S, u < 64 := fun u hu => blk64 (hSb u hu)
        have HE := Lib.hid (HYes.out hq S hS h64 x HI.out.2)
        have hSl : S.length = k := by rw [← HL.out, hS, List.length_map]
        have HS1 := Lib.hid (fun W (hb : RB w (.slice A n cap) W) => iSetOf W A' k cap' b off L S hS h64 hSl hml (fun h0 => (HA2.out h0).1) (HB'.out W hb.1))
        have HS2 := Lib.hid (fun W b1 off1 A1 c1 hl hA R => HSt.out W b1 off1 A1 c1 (idl xs) (idl_lt xs) hl hA R)
        have hand := u64_and_nat x (setN (idl xs)) HI.out.2.1 (set_lt (idl_lt xs))
        have HLt := Lib.hid (And.intro (set_lt h64) (Sets.minus_lt (y := setN (idl xs)) HI.out.2.1))
        have HCl := cellsR_length xs
        rw [idl_cells, List.length_map] at HCl
        have c1 := hT.2.2
        unfold SetE at HS1 HS2
        generalize setN (idl xs) = zi at HS2 hand HE HLt
        obtain ⟨q, hq2⟩ : ∃ q : Int, q = (zi : Int) := ⟨_, rfl⟩
        obtain ⟨q1, hq1⟩ : ∃ q1 : Int, q1 = ((setN S : Nat) : Int) := ⟨_, rfl⟩
        rw [← hq2] at HS2 hand
        rw [← hq1] at HS1
        have HQ1 := Lib.hid hq1
        clear HI HFin HSB HYes hS hSb h64 hq2 hq1 hSl HNo HHs HNv HSt HB' HA2
        go_upto_region 11 with fail
        have Tc := hT.drew
        have hl6 : ((idl xs).length : Int) ≤ 1048576 := by omega
        clear hT c1
        refine wp_region_noPanic ?_
        refine wp_region_held_drew (S := (fun w' => w'.cell? ⟨w.heap.size, 0, none⟩ = some (.slice A n cap))) (by kernel_rfl) (Tc.2.2) (fun hHeld => ?_)
        refine wpAnyH_take (i := 0) (v := ?_) rfl (by kernel_rfl) (by kernel_rfl) (by kernel_rfl) (fun _ _ _ h => h) (Or.inl ⟨by rfl, ?_⟩) (by assumption) ?_
        rotate_left
        · (intro w' hS; (try dsimp only at hS); go_simp; try with_reducible rfl)
        try simp only [Act.put, List.getElem_toArray, List.getElem_cons_succ, List.getElem_cons_zero, List.setIfInBounds_toArray, List.set_cons_zero, List.set_cons_succ]
        refine wpAnyH_take (i := 2) (v := ?_) rfl (by kernel_rfl) (by kernel_rfl) (by kernel_rfl) (fun _ _ _ h => h) (Or.inl ⟨by rfl, ?_⟩) (by assumption) ?_
        rotate_left
        · (intro w' hS; (try dsimp only at hS); go_simp; try with_reducible rfl)
        try simp only [Act.put, List.getElem_toArray, List.getElem_cons_succ, List.getElem_cons_zero, List.setIfInBounds_toArray, List.set_cons_zero, List.set_cons_succ]
        refine wpAnyH_take (i := 3) (v := ?_) rfl (by kernel_rfl) (by kernel_rfl) (by kernel_rfl) (fun _ _ _ h => h) (Or.inl ⟨by rfl, ?_⟩) (by assumption) ?_
        rotate_left
        · (intro w' hS; (try dsimp only at hS); go_simp; try with_reducible rfl)
        try simp only [Act.put, List.getElem_toArray, List.getElem_cons_succ, List.getElem_cons_zero, List.setIfInBounds_toArray, List.set_cons_zero, List.set_cons_succ]
        refine wpAnyH_ready (rs := [1]) (by kernel_rfl) (by simp) ?_
        refine (AllReadyH.cons rfl (fun K hK => ?_) AllReadyH.nil)
        go_simp
        refine (HS1.out _ Tc).mono ?_
        rintro e wx ⟨rfl, hbx⟩
        have Tc := Tc.on hbx
        clear hbx
        go_wp2_with fail
        refine hK.out _ _ (Tc.2.2) (fun hHeld => ?_)
        clear hK K
        try simp only [Act.put, List.getElem_toArray, List.getElem_cons_succ, List.getElem_cons_zero, List.setIfInBounds_toArray, List.set_cons_zero, List.set_cons_succ]
        refine wpAnyH_ready (rs := [4]) (by kernel_rfl) (by simp) ?_
        refine (AllReadyH.cons rfl (fun K hK => ?_) AllReadyH.nil)
        go_simp
        refine (HC.out _ Tc).mono ?_
        rintro e wx ⟨A6, cap6, b6, off6, rfl, hA6, R6, hbx⟩
        have Tc := Tc.on hbx
        clear hbx
        go_wp2_with fail
        refine hK.out _ _ (Tc.2.2) (fun hHeld => ?_)
        clear hK K
        try simp only [Act.put, List.getElem_toArray, List.getElem_cons_succ, List.getElem_cons_zero, List.setIfInBounds_toArray, List.set_cons_zero, List.set_cons_succ]
        refine wpAnyH_ready (rs := [5]) (by kernel_rfl) (by simp) ?_
        refine (AllReadyH.cons rfl (fun K hK => ?_) AllReadyH.nil)
        go_simp
        refine (HS2.out _ b6 off6 A6 cap6 hl6 hA6 R6).mono ?_
        rintro e wx ⟨rfl, hbx⟩
        have Tc := Tc.on hbx
        clear hbx
        go_wp2_with fail
        refine hK.out _ _ (Tc.2.2) (fun hHeld => ?_)
        clear hK K
        try simp only [Act.put, List.getElem_toArray, List.getElem_cons_succ, List.getElem_cons_zero, List.setIfInBounds_toArray, List.set_cons_zero, List.set_cons_succ]
        refine wpAnyH_take (i := 6) (v := ?_) rfl (by kernel_rfl) (by kernel_rfl) (by kernel_rfl) (fun _ _ _ h => h) (Or.inl ⟨by rfl, ?_⟩) (by assumption) ?_
        rotate_left
        · (intro w' hS; (try dsimp only at hS); go_simp; try with_reducible rfl)
        try simp only [Act.put, List.getElem_toArray, List.getElem_cons_succ, List.getElem_cons_zero, List.setIfInBounds_toArray, List.set_cons_zero, List.set_cons_succ]
        refine wpAnyH_take (i := 7) (v := ?_) rfl (by kernel_rfl) (by kernel_rfl) (by kernel_rfl) (fun _ _ _ h => h) (Or.inl ⟨by rfl, ?_⟩) (by assumption) ?_
        rotate_left
        · (intro w' hS; (try dsimp only at hS); go_simp; try with_reducible rfl)
        try simp only [Act.put, List.getElem_toArray, List.getElem_cons_succ, List.getElem_cons_zero, List.setIfInBounds_toArray, List.set_cons_zero, List.set_cons_succ]
        refine wpAnyH_take (i := 8) (v := ?_) rfl (by kernel_rfl) (by kernel_rfl) (by kernel_rfl) (fun _ _ _ h => h) (Or.inl ⟨by rfl, ?_⟩) (by assumption) ?_
        rotate_left
        · (intro w' hS; (try dsimp only at hS); go_simp; try with_reducible rfl)
        try simp only [Act.put, List.getElem_toArray, List.getElem_cons_succ, List.getElem_cons_zero, List.setIfInBounds_toArray, List.set_cons_zero, List.set_cons_succ]
        refine wpAnyH_done (by kernel_rfl) ?_ _
        refine NoPanic.normal ?_
        clear hHeld
        go_wp2
        exact bodyPost_ret (v := .tuple #[.int .u64 q1, .int .u64 ((x &&& zi : Nat) : Int)]) (by simp [results, Tryd.results39, go_sem]) rfl ⟨setN S, x &&& zi, by rw [HQ1.out], HLt.out.1, HLt.out.2, HE.out.1, HE.out.2, Tc.1⟩
end Go.Proofs.YtgkgdgchkhdgjaaDoor.Def

/- Deficit and IsProofOf, the program's. -/
namespace Go.Proofs.YtgkgdgchkhdgjaaDoor.Def
set_option linter.unusedVariables false
set_option linter.unusedSimpArgs false
set_option maxRecDepth 100000
open Go.RowKit Go.Proofs.YtgkgdgchkhdgjaaDoor.Base Go.Proofs.YtgkgdgchkhdgjaaDoor.Pure Go.Proofs.YtgkgdgchkhdgjaaDoor.Cell Go.Proofs.YtgkgdgchkhdgjaaDoor.Cels Go.Proofs.YtgkgdgchkhdgjaaDoor.Dom Go.Proofs.YtgkgdgchkhdgjaaDoor.Dms Go.Proofs.YtgkgdgchkhdgjaaDoor.Sets Go.Proofs.YtgkgdgchkhdgjaaDoor.Kun Go.Proofs.YtgkgdgchkhdgjaaDoor.KuL Go.Proofs.YtgkgdgchkhdgjaaDoor.Til Go.Proofs.YtgkgdgchkhdgjaaDoor.Mat Go.Joins
open Go.Proofs.YtgkgdgchkhdgjaaDoor.Reg hiding Yes add_none RC rc_start

set_option maxHeartbeats 2000000 in
theorem iDeficit (w : World) (A : Option Addr) (n cap B : Nat) (xs : List Int) (hx : xs.length = n) (hn : (n : Int) ≤ 9223372036854775807) (h : RowB w B A xs) (hB : B ≤ w.heap.size)
    (A' : Option Addr) (m cap' B' : Nat) (L : List (Int × Int)) (hL : L.length = m) (hm : (m : Int) ≤ 1048576) (h' : RowK w B' A' L) (hB' : B' ≤ w.heap.size) :
    Calls Tryd.prog 13 #[.agg #[.slice A n cap], .slice A' m cap'] w (Num (defR xs L) w) := by
  have HA := Lib.hid (fun W (hb : RB w (.slice A n cap) W) => iAround W A n cap B xs hx hn (h.below hb.1 hB) (by have := hb.2.1; omega) A' m cap' B' L hL hm (h'.below hb.1 hB') (by have := hb.2.1; omega))
  have HC := Lib.hid (fun x (hx : x < 18446744073709551616) W => iCount x hx W)
  have H64 := Lib.hid (fun x => pl_le64 (bt x))
  have T0 := Lib.hid (fun (T : TypeId) => rb_start (T := T) (.slice A n cap) w)
  clear hx hn h hB hL hm h' hB'
  go_enter Tryd.func13, Tryd.ntmps13
  go_wp2_with fail
  have T1 := T0.out 26
  clear T0
  refine (HA.out _ T1).mono ?_
  rintro e w1 ⟨X, Y, rfl, hX, hY, hd, _, hb1⟩
  have T2 := T1.on hb1
  have HX := Lib.hid (fun W => HC.out X hX W)
  have HY := Lib.hid (fun W => HC.out Y hY W)
  have hx64 := H64.out X
  have hy64 := H64.out Y
  have HD := Lib.hid hd
  generalize (pl (bt X)).length = a at HX hx64 HD
  generalize (pl (bt Y)).length = b at HY hy64 HD
  have hwr : IntKind.i64.wrap ((a : Int) - (b : Int)) = (a : Int) - (b : Int) := by rw [IntKind.wrap_i64]; omega
  clear T1 hX hY hd hb1 HA HC H64
  go_wp2_with fail
  refine (HX.out _).mono ?_
  rintro e w3 ⟨rfl, rfl⟩
  go_wp2_with fail
  refine (HY.out _).mono ?_
  rintro e w4 ⟨rfl, rfl⟩
  go_wp2
  go_ret
  exact mkNum HD.out T2.1
theorem defR_le64' (xs : List Int) (L : List (Int × Int)) : -64 ≤ defR xs L := by
  have := whtR_length xs L
  unfold defR
  split <;> omega
set_option maxHeartbeats 2000000 in
theorem iIsProofOf (w : World) (A : Option Addr) (n cap B : Nat) (xs : List Int) (hx : xs.length = n) (hn : (n : Int) ≤ 9223372036854775807) (h : RowB w B A xs) (hB : B ≤ w.heap.size)
    (A' : Option Addr) (m cap' B' : Nat) (L : List (Int × Int)) (hL : L.length = m) (hm : (m : Int) ≤ 1048576) (h' : RowK w B' A' L) (hB' : B' ≤ w.heap.size) (f : Int) :
    Calls Tryd.prog 14 #[.agg #[.slice A n cap], .slice A' m cap', .int .i64 f] w (Bol (prfB xs L f) w) := by
  have HD := Lib.hid (fun W (hb : RB w (.slice A n cap) W) => iDeficit W A n cap B xs hx hn (h.below hb.1 hB) (by have := hb.2.1; omega) A' m cap' B' L hL hm (h'.below hb.1 hB') (by have := hb.2.1; omega))
  have T0 := Lib.hid (fun (T : TypeId) => rb_start (T := T) (.slice A n cap) w)
  have HE := Lib.hid (show prfB xs L f = (decide (0 < f) && decide (f ≤ defR xs L)) from rfl)
  generalize defR xs L = d at HD HE
  generalize prfB xs L f = q at HE ⊢
  clear hx hn h hB hL hm h' hB'
  by_cases hf : 0 < f
  · go_enter Tryd.func14, Tryd.ntmps14
    go_wp2_with fail
    have T1 := T0.out 26
    clear T0
    refine (HD.out _ T1).mono ?_
    rintro e w3 ⟨rfl, hb3⟩
    have T3 := T1.on hb3
    clear T1 hb3 HD
    go_wp2
    go_ret
    exact mkBol (by rw [HE.out, decide_eq_true hf, Bool.true_and]) T3.1
  · go_enter Tryd.func14, Tryd.ntmps14
    go_wp2_with fail
    have T1 := T0.out 26
    clear T0 HD
    go_wp2
    go_ret
    exact mkBol (by rw [HE.out, decide_eq_false (by omega), Bool.false_and]) T1.1
end Go.Proofs.YtgkgdgchkhdgjaaDoor.Def
