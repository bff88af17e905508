/- Sets of places as numbers of 64 bits, pure: their places, the least of them, places taken out; the numbers that can come up while a region is covered, by one index. -/
import Derived.Laws.BitsAllLaws
import Derived.Lib.TrailingZeros
namespace Go.Proofs.YtgkgdgchkhdgjaaDoor.Sets
set_option linter.unusedVariables false
set_option linter.unusedSimpArgs false
def top : Nat := 18446744073709551616
/-- the places of a set. -/
def bt (x : Nat) : Nat → Bool := fun i => x.testBit i
theorem top_is : 18446744073709551616 = 2 ^ 64 := by decide
theorem bt_out {x : Nat} (h : x < 18446744073709551616) : ∀ i, 64 ≤ i → bt x i = false := fun i hi => by
  refine Nat.testBit_lt_two_pow (Nat.lt_of_lt_of_le h ?_)
  rw [top_is]; exact Nat.pow_le_pow_right (by decide) hi
theorem bt_zero (i : Nat) : bt 0 i = false := by unfold bt; exact Nat.zero_testBit i
theorem bt_ext {x y : Nat} (h : bt x = bt y) : x = y := Nat.eq_of_testBit_eq (fun i => congrFun h i)
theorem one_lt {k : Nat} (h : k < 64) : 2 ^ k < 18446744073709551616 := by rw [top_is]; exact Nat.pow_lt_pow_right (by decide) h
theorem or_lt {x y : Nat} (hx : x < 18446744073709551616) (hy : y < 18446744073709551616) : x ||| y < 18446744073709551616 := by rw [top_is] at *; exact Nat.or_lt_two_pow hx hy
theorem bt_or (x y i : Nat) : bt (x ||| y) i = (bt x i || bt y i) := Nat.testBit_or x y i
theorem bt_one (k i : Nat) : bt (2 ^ k) i = decide (k = i) := Nat.testBit_two_pow
theorem bt_and (x y i : Nat) : bt (x &&& y) i = (bt x i && bt y i) := Nat.testBit_and x y i
theorem bt_not {y : Nat} (hy : y < 18446744073709551616) (i : Nat) : bt (18446744073709551615 - y) i = (decide (i < 64) && !bt y i) := by
  have := Nat.testBit_two_pow_sub_succ (n := 64) (x := y) (by rw [← top_is]; exact hy) i
  rw [← top_is, show 18446744073709551616 - (y + 1) = 18446744073709551615 - y by omega] at this
  exact this
theorem bt_minus {x y : Nat} (hx : x < 18446744073709551616) (hy : y < 18446744073709551616) (i : Nat) : bt (x &&& (18446744073709551615 - y)) i = (bt x i && !bt y i) := by
  rw [bt_and, bt_not hy]
  by_cases h : i < 64
  · simp [h]
  · rw [bt_out hx i (by omega)]; rfl
theorem minus_lt {x y : Nat} (hx : x < 18446744073709551616) : x &&& y < 18446744073709551616 := Nat.lt_of_le_of_lt Nat.and_le_left hx
/-- a set by its places. -/
def setN (l : List Nat) : Nat := l.foldl (fun s k => s ||| 2 ^ k) 0
theorem fold_bt : ∀ (l : List Nat) (s i : Nat), bt (l.foldl (fun s k => s ||| 2 ^ k) s) i = (bt s i || decide (i ∈ l))
  | [], s, i => by simp
  | k :: r, s, i => by
    rw [List.foldl_cons, fold_bt r, bt_or, bt_one]
    by_cases h : k = i
    · subst h; simp
    · have : ¬ i = k := fun e => h e.symm
      simp [h, this]
theorem bt_set (l : List Nat) (i : Nat) : bt (setN l) i = decide (i ∈ l) := by unfold setN; rw [fold_bt, bt_zero]; rfl
theorem fold_lt : ∀ (l : List Nat) (s : Nat), (∀ k ∈ l, k < 64) → s < 18446744073709551616 → l.foldl (fun s k => s ||| 2 ^ k) s < 18446744073709551616
  | [], s, _, h => h
  | k :: r, s, hl, h => fold_lt r _ (fun j hj => hl j (List.mem_cons_of_mem _ hj)) (or_lt h (one_lt (hl k (List.mem_cons_self ..))))
theorem set_lt {l : List Nat} (h : ∀ k ∈ l, k < 64) : setN l < 18446744073709551616 := fold_lt l 0 h (by decide)
theorem set_snoc (l : List Nat) (k : Nat) : setN (l ++ [k]) = setN l ||| 2 ^ k := by unfold setN; rw [List.foldl_append]; rfl
theorem set_take {l : List Nat} {j : Nat} (h : j < l.length) : setN (l.take (j + 1)) = setN (l.take j) ||| 2 ^ l[j] := by
  rw [List.take_add_one, List.getElem?_eq_getElem h, Option.toList_some, set_snoc]
/-- the least place. -/
theorem ctz_is {x : Nat} (h0 : x ≠ 0) (h : x < 18446744073709551616) : Go.Lib.ctz 64 x < 64 ∧ bt x (Go.Lib.ctz 64 x) = true ∧ ∀ i, i < Go.Lib.ctz 64 x → bt x i = false := by
  obtain ⟨m, hm, hk⟩ := Go.Lib.ctzFrom_spec 64 x (by omega) (by rw [← top_is]; exact h)
  have e : Go.Lib.ctz 64 x = Go.Lib.ctzFrom 64 x := by unfold Go.Lib.ctz; rw [if_neg h0]
  rw [← e] at hm hk
  generalize Go.Lib.ctz 64 x = k at hm hk
  refine ⟨hk, ?_, fun i hi => ?_⟩
  · unfold bt
    rw [hm, Nat.mul_comm, Nat.testBit_mul_two_pow]
    simp [Nat.testBit_zero]
  · unfold bt
    rw [hm, Nat.mul_comm, Nat.testBit_mul_two_pow]
    simp; omega
theorem zero_of {x : Nat} (hx : x < 18446744073709551616) (h : ∀ i, i < 64 → bt x i = false) : x = 0 := by
  apply bt_ext
  funext i
  rw [bt_zero]
  by_cases q : i < 64
  · exact h i q
  · exact bt_out hx i (by omega)
/-- does a set meet another. -/
theorem meets {x k : Nat} : (x &&& 2 ^ k ≠ 0) ↔ bt x k = true := by
  constructor
  · intro h
    by_cases q : bt x k = true
    · exact q
    · exfalso; apply h
      apply bt_ext
      funext i
      rw [bt_and, bt_one, bt_zero]
      by_cases e : k = i
      · subst e; simp at q; rw [q]; rfl
      · simp [e]
  · intro h e
    have := congrArg (fun y => bt y k) e
    simp only [bt_and, bt_one, bt_zero, h] at this
    simp at this
/-- places behind c + 8 as in G, none before c. -/
def Key (G c x : Nat) : Prop := x < 18446744073709551616 ∧ (∀ i, i < c → bt x i = false) ∧ ∀ i, c + 8 < i → bt x i = bt G i
/-- the set of an index. -/
def dec (G n : Nat) : Nat := (n % 512) * 2 ^ (n / 512) ||| (G >>> (n / 512 + 9)) * 2 ^ (n / 512 + 9)
theorem dec_bt (G n i : Nat) : bt (dec G n) i = ((decide (n / 512 ≤ i) && decide (i - n / 512 < 9) && n.testBit (i - n / 512)) || (decide (n / 512 + 9 ≤ i) && bt G i)) := by
  unfold dec
  rw [bt_or]
  unfold bt
  rw [Nat.testBit_mul_two_pow, Nat.testBit_mul_two_pow, show (512 : Nat) = 2 ^ 9 by decide, Nat.testBit_mod_two_pow, Nat.testBit_shiftRight]
  by_cases h : n / 2 ^ 9 + 9 ≤ i
  · rw [show n / 2 ^ 9 + 9 + (i - (n / 2 ^ 9 + 9)) = i by omega]
    simp [Bool.and_assoc]
  · simp [h, Bool.and_assoc]
theorem key_dec {G c x : Nat} (h : Key G c x) (hc : c ≤ 64) : ∃ n, n < 33280 ∧ x = dec G n := by
  refine ⟨c * 512 + x / 2 ^ c % 512, by omega, ?_⟩
  have h1 : (c * 512 + x / 2 ^ c % 512) / 512 = c := by omega
  apply bt_ext
  funext i
  rw [dec_bt, h1]
  have hb : ∀ j, j < 9 → (c * 512 + x / 2 ^ c % 512).testBit j = x.testBit (c + j) := by
    intro j hj
    have : (c * 512 + x / 2 ^ c % 512) % 512 = x / 2 ^ c % 512 := by omega
    have e1 := Nat.testBit_mod_two_pow (c * 512 + x / 2 ^ c % 512) 9 j
    have e2 := Nat.testBit_mod_two_pow (x / 2 ^ c) 9 j
    rw [show (2 : Nat) ^ 9 = 512 by decide] at e1 e2
    rw [this, e2] at e1
    simp only [hj, decide_true, Bool.true_and] at e1
    rw [← e1, Nat.testBit_div_two_pow]
    congr 1; omega
  by_cases h2 : i < c
  · rw [h.2.1 i h2]; simp; omega
  · by_cases h3 : i - c < 9
    · rw [hb _ h3, show c + (i - c) = i by omega]
      have h4 : c ≤ i := by omega
      have h5 : ¬ c + 9 ≤ i := by omega
      unfold bt
      simp [h3, h4, h5]
    · rw [h.2.2 i (by omega)]
      have : c + 9 ≤ i := by omega
      simp [h3, this]
theorem Key.mono {G c x : Nat} (h : Key G c x) {c' : Nat} (hc : c ≤ c') (h0 : ∀ i, i < c' → bt x i = false) : Key G c' x := ⟨h.1, h0, fun i hi => h.2.2 i (by omega)⟩
theorem Key.start {G : Nat} (h : G < 18446744073709551616) : Key G 0 G := ⟨h, fun i hi => by omega, fun i _ => rfl⟩
theorem Key.step {G c x e : Nat} (h : Key G c x) (hc : bt x c = true) (h8 : e ≤ c + 8) (hc6 : c < 64) (he : e < 64) : Key G (c + 1) (x &&& (18446744073709551615 - (2 ^ c ||| 2 ^ e))) := by
  have hm : 2 ^ c ||| 2 ^ e < 18446744073709551616 := or_lt (one_lt hc6) (one_lt he)
  refine ⟨minus_lt h.1, fun i hi => ?_, fun i hi => ?_⟩
  · rw [bt_minus h.1 hm, bt_or, bt_one, bt_one]
    by_cases q : i = c
    · subst q; simp
    · rw [h.2.1 i (by omega)]; rfl
  · rw [bt_minus h.1 hm, bt_or, bt_one, bt_one, h.2.2 i (by omega)]
    have h1 : ¬ c = i := by omega
    have h2 : ¬ e = i := by omega
    simp [h1, h2]
end Go.Proofs.YtgkgdgchkhdgjaaDoor.Sets
