/- TilN, Dss, TilA, RegCel, TilU, TilI, LisS in one text. -/
import Derived.Test.YtkjoonmnedofiaaTilM
import Derived.Test.YtkjoonmnedofiaaTilP
import Derived.Test.YtkjoonmnedofiaaDomF
import Derived.Test.YtkjoonmnedofiaaDomG
import Derived.Test.YtkjoonmnedofiaaRegHas
import Derived.Test.YtkjoonmnedofiaaRegCl
import Derived.Test.YtkjoonmnedofiaaRegF
import Derived.Test.YtkjoonmnedofiaaRegL
import Derived.Deep.RegionHeld3
import Derived.Test.YtkjoonmnedofiaaLisP

/- Numbers are written into a slice of dominoes and read again. -/
namespace Go.Proofs.Ytkjoonmnedofiaa.Til
set_option linter.unusedVariables false
set_option linter.unusedSimpArgs false
open Go.RowKit Go.Proofs.Ytkjoonmnedofiaa.Base Go.Proofs.Ytkjoonmnedofiaa.Pure Go.Proofs.Ytkjoonmnedofiaa.Cell Go.Proofs.Ytkjoonmnedofiaa.Dom Go.Proofs.Ytkjoonmnedofiaa.Dms Go.Joins
open Go.Proofs.Ytkjoonmnedofiaa.Reg hiding Yes add_none

/-- divisible by three. -/
def by3 (m : Nat) : Bool := decide (((m : Nat) : Int) % 3 = 0)
/-- the numbers from k on, three a domino. -/
def mkM (k j : Nat) : Dm := (((k + 3 * j : Nat) : Int), ((k + 3 * j + 1 : Nat) : Int), by3 (k + 3 * j + 2))
def marksM (k n : Nat) : List Dm := (List.range n).map (mkM k)
theorem marksM_length (k n : Nat) : (marksM k n).length = n := by unfold marksM; simp
theorem marksM_at (k n j : Nat) (h : j < n) : (marksM k n)[j]? = some (mkM k j) := by unfold marksM; simp [List.getElem?_range h]
theorem marksM_step (k j n : Nat) (L : List Dm) (hL : L.length = n) (hj : j < n) :
    (((rowM (marksM k j ++ L.drop j)).set (j * 3) (.int .i64 ((k + 3 * j : Nat) : Int))).set (j * 3 + 1) (.int .i64 ((k + 3 * j + 1 : Nat) : Int))).set (j * 3 + 2) (.bool (by3 (k + 3 * j + 2))) = rowM (marksM k (j + 1) ++ L.drop (j + 1)) := by
  rw [List.drop_eq_getElem_cons (by omega)]
  have h := rowM_put (marksM k j) L[j] (mkM k j) (L.drop (j + 1)) j (marksM_length k j)
  unfold mkM at h
  simp only at h
  rw [h]
  congr 1
  unfold marksM
  rw [List.range_succ, List.map_append, List.append_assoc]
  rfl

set_option maxRecDepth 100000 in
set_option maxHeartbeats 1000000 in
theorem markDoms (w : World) (base hi k n cap : Nat) (A : Option Addr) (L : List Dm) (hn : ((k + 3 * n : Nat) : Int) ≤ 10000000) (hr : RowIn w base hi 38 3 (.slice A n cap) n (rowM L)) :
    Calls Try.prog 27 #[.slice A n cap, .int .i64 (k : Int)] w fun e w' => e = .returned (.int .i64 ((k + 3 * n : Nat) : Int)) ∧ RowIn w' base hi 38 3 (.slice A n cap) n (rowM (marksM k n)) ∧ Apart base hi w w' := by
  have hx : L.length = n := by have := hr.1.1; rw [rowM_length] at this; omega
  have HX := Lib.hid hx
  have HN := Lib.hid hn
  have HH := Lib.hid hr.2
  have HO := Lib.hid hr.1
  clear hx hr hn
  go_enter Try.func27, Try.ntmps27
  go_wp2_with fail
  go_loopw [1, 5] (fun m i wr => ∃ j : Nat, j ≤ n ∧ i = .int .i64 j ∧ m = .int .i64 ((k + 3 * j : Nat) : Int) ∧ wr.ownsRow base 38 3 (.slice A n cap) n (rowM (marksM k j ++ L.drop j)) ∧ Apart base hi w wr) (fun _ i _ => n - (intOf i).toNat)
  case atStart => exact ⟨0, Nat.zero_le _, rfl, rfl, by simpa [marksM] using HO.out, Apart.refl _ _ _⟩
  case round =>
    obtain ⟨j, hj, rfl, rfl, hown, hb⟩ := hrel
    have hm : ((k + 3 * j : Nat) : Int) ≤ 10000000 := by have := HN.out; omega
    by_cases hlt : j < n
    · obtain ⟨g, c, hv, hg1, hg2⟩ := hown.form (by omega)
      injection hv with hA hn1 hc1
      subst hA
      subst hc1
      have hu : ∀ m, m < n * 3 → ∃ u, wr.cell? ⟨g, m, none⟩ = some u := fun m hm => by
        have hlen := hown.1
        rw [hown.cellAt m (by omega)]; exact ⟨_, List.getElem?_eq_getElem (by omega)⟩
      obtain ⟨u0, hu0⟩ := hu (j * 3) (by omega)
      obtain ⟨u1, hu1⟩ := hu (j * 3 + 1) (by omega)
      obtain ⟨u2, hu2⟩ := hu (j * 3 + 2) (by omega)
      have hf0 := hown.frozenAt (j * 3)
      have hf1 := hown.frozenAt (j * 3 + 1)
      have hf2 := hown.frozenAt (j * 3 + 2)
      obtain ⟨hst, _⟩ := hown.stored (j * 3) (.int .i64 ((k + 3 * j : Nat) : Int))
      obtain ⟨hst, _⟩ := hst.stored (j * 3 + 1) (.int .i64 ((k + 3 * j + 1 : Nat) : Int))
      obtain ⟨hst, _⟩ := hst.stored (j * 3 + 2) (.bool (by3 (k + 3 * j + 2)))
      rw [marksM_step k j n L HX.out hlt] at hst
      have hb3 := ((hb.setCell (p := ⟨g, j * 3, none⟩) hg1 (HH.out g rfl) (.int .i64 ((k + 3 * j : Nat) : Int))).setCell (p := ⟨g, j * 3 + 1, none⟩) hg1 (HH.out g rfl) (.int .i64 ((k + 3 * j + 1 : Nat) : Int))).setCell (p := ⟨g, j * 3 + 2, none⟩) hg1 (HH.out g rfl) (.bool (by3 (k + 3 * j + 2)))
      have hk2 : ((k + 3 * (j + 1) : Nat) : Int) = ((k + 3 * j : Nat) : Int) + 3 := by omega
      have e1 : ((k + 3 * j + 1 : Nat) : Int) = ((k + 3 * j : Nat) : Int) + 1 := by omega
      have e2 : by3 (k + 3 * j + 2) = ((((k + 3 * j : Nat) : Int) + 1 + 1) % 3 == 0) := by unfold by3; rw [Bool.eq_iff_iff]; simp only [decide_eq_true_eq, beq_iff_eq]; omega
      rw [e2, e1] at hst hb3
      have R := Lib.hid hst
      have HB := Lib.hid hb3
      have HK2 := Lib.hid hk2
      have hm0 : 0 ≤ ((k + 3 * j : Nat) : Int) := by omega
      have hnb : (n : Int) ≤ 10000000 := by have := HN.out; omega
      generalize ((k + 3 * j : Nat) : Int) = m at hm R HB HK2 hm0
      clear hown hst hb3 hb hu hk2 e1 e2
      go_wp2
      go_roundw
      case rel => exact ⟨j + 1, by omega, by go_num, by rw [HK2.out]; go_num, R.out, HB.out⟩
      case measure => (simp [intOf] <;> omega)
    · obtain rfl : j = n := by omega
      have R := Lib.hid (show wr.ownsRow base 38 3 (.slice A j cap) j (rowM (marksM k j)) by
        have e : marksM k j ++ L.drop j = marksM k j := by rw [List.drop_eq_nil_of_le (by rw [HX.out]; omega), List.append_nil]
        rw [e] at hown; exact hown)
      clear hown
      go_wp2
      go_ret
      exact ⟨by go_num, ⟨R.out, HH.out⟩, hb⟩
set_option maxRecDepth 100000 in
set_option maxHeartbeats 1000000 in
theorem heldDoms (w : World) (k n cap B : Nat) (A : Option Addr) (hn : ((k + 3 * n : Nat) : Int) ≤ 10000000) (hr : RowM w B A (marksM k n)) :
    Calls Try.prog 28 #[.slice A n cap, .int .i64 (k : Int)] w fun e w' => e = .returned (.int .i64 ((k + 3 * n : Nat) : Int)) ∧ w' = w := by
  obtain ⟨b, off, hA, hc⟩ := hr
  have HA := Lib.hid hA
  have HC := Lib.hid hc
  have HN := Lib.hid hn
  clear hA hc hn
  go_enter Try.func28, Try.ntmps28
  go_wp2_with fail
  go_loopw [1, 5] (fun m i wr => ∃ j : Nat, j ≤ n ∧ i = .int .i64 j ∧ m = .int .i64 ((k + 3 * j : Nat) : Int) ∧ wr = w) (fun _ i _ => n - (intOf i).toNat)
  case atStart => exact ⟨0, Nat.zero_le _, rfl, rfl, rfl⟩
  case round =>
    obtain ⟨j, hj, rfl, rfl, rfl⟩ := hrel
    have hm : ((k + 3 * j : Nat) : Int) ≤ 10000000 := by have := HN.out; omega
    by_cases hlt : j < n
    · obtain ⟨rfl, hbw⟩ := HA.out (by rw [marksM_length]; omega)
      obtain ⟨c0, c1, c2⟩ := HC.out j _ (marksM_at k n j hlt)
      unfold mkM at c0 c1 c2
      simp only at c0 c1 c2
      have HK2 := Lib.hid (show ((k + 3 * (j + 1) : Nat) : Int) = ((k + 3 * j : Nat) : Int) + 3 by omega)
      have e1 : ((k + 3 * j + 1 : Nat) : Int) = ((k + 3 * j : Nat) : Int) + 1 := by omega
      have e2 : by3 (k + 3 * j + 2) = ((((k + 3 * j : Nat) : Int) + 1 + 1) % 3 == 0) := by unfold by3; rw [Bool.eq_iff_iff]; simp only [decide_eq_true_eq, beq_iff_eq]; omega
      rw [e1] at c1
      rw [e2] at c2
      have hm0 : 0 ≤ ((k + 3 * j : Nat) : Int) := by omega
      have hnb : (n : Int) ≤ 10000000 := by have := HN.out; omega
      generalize ((k + 3 * j : Nat) : Int) = m at hm HK2 hm0 c0 c1 c2
      have q0 : (m != m) = false := by simp
      have q1 : (m + 1 != m + 1) = false := by simp
      have q2 : (((m + 1 + 1) % 3 == 0) != ((m + 1 + 1) % 3 == 0)) = false := by simp
      clear e1 e2
      go_wp2
      go_roundw
      case rel => exact ⟨j + 1, by omega, by go_num, by rw [HK2.out]; go_num, trivial⟩
      case measure => (simp [intOf] <;> omega)
    · obtain rfl : j = n := by omega
      go_wp2
      go_ret
      exact ⟨by go_num, rfl⟩
/-- the answer under a name. -/
theorem markDomsN (w : World) (base hi k n cap : Nat) (A : Option Addr) (L : List Dm) (k0 m : Int) (hk : k0 = (k : Int)) (hm : m = ((k + 3 * n : Nat) : Int)) (hn : m ≤ 10000000) (hr : RowIn w base hi 38 3 (.slice A n cap) n (rowM L)) :
    Calls Try.prog 27 #[.slice A n cap, .int .i64 k0] w fun e w' => e = .returned (.int .i64 m) ∧ RowIn w' base hi 38 3 (.slice A n cap) n (rowM (marksM k n)) ∧ Apart base hi w w' := by
  subst hm; subst hk
  exact markDoms w base hi k n cap A L hn hr
theorem heldDomsN (w : World) (k n cap B : Nat) (A : Option Addr) (k0 m : Int) (hk : k0 = (k : Int)) (hm : m = ((k + 3 * n : Nat) : Int)) (hn : m ≤ 10000000) (hr : RowM w B A (marksM k n)) :
    Calls Try.prog 28 #[.slice A n cap, .int .i64 k0] w fun e w' => e = .returned (.int .i64 m) ∧ w' = w := by
  subst hm; subst hk
  exact heldDoms w k n cap B A hn hr
end Go.Proofs.Ytkjoonmnedofiaa.Til

/- Slices of slices of dominoes: what lies there, two that are compared, numbers that are written into one and read again. -/
namespace Go.Proofs.Ytkjoonmnedofiaa.Dss
set_option linter.unusedVariables false
set_option linter.unusedSimpArgs false
open Go.RowKit Go.Proofs.Ytkjoonmnedofiaa.Base Go.Proofs.Ytkjoonmnedofiaa.Pure Go.Proofs.Ytkjoonmnedofiaa.Cell Go.Proofs.Ytkjoonmnedofiaa.Dom Go.Proofs.Ytkjoonmnedofiaa.Dms Go.Proofs.Ytkjoonmnedofiaa.Til Go.Joins
open Go.Proofs.Ytkjoonmnedofiaa.Reg hiding Yes add_none

def blk (a : Option Addr) : Option Nat := a.map (·.block)
theorem ownBlock_slice (a : Option Addr) (n c : Nat) : (Value.slice a n c).ownBlock = blk a := by cases a <;> rfl
/-- no block of both. -/
def Dif (a b : Option Addr) : Prop := ∀ g, blk a = some g → blk b ≠ some g
theorem Dif.symm {a b : Option Addr} (h : Dif a b) : Dif b a := fun g h1 h2 => h g h2 h1
theorem dif_types {W : World} {lo lo' e e' size size' n n' : Nat} {A A' : Option Addr} {c c' m m' : Nat} {xs xs' : List Value} (h : W.ownsRow lo e size (.slice A m c) n xs) (h' : W.ownsRow lo' e' size' (.slice A' m' c') n' xs') (hne : e ≠ e') : Dif A A' := by
  intro g h1 h2
  rcases h.2 with ⟨hv, _⟩ | ⟨g1, cap1, cur1, hv, _, hg1, _⟩
  · injection hv with hA; subst hA; cases h1
  · injection hv with hA; subst hA
    rcases h'.2 with ⟨hv', _⟩ | ⟨g2, cap2, cur2, hv', _, hg2, _⟩
    · injection hv' with hA'; subst hA'; cases h2
    · injection hv' with hA'; subst hA'
      simp [blk] at h1 h2
      subst h1; subst h2
      rw [hg1] at hg2
      injection hg2 with hg2
      injection hg2 with _ hg2
      exact hne hg2
/-- the slices, as they lie in a row. -/
def outs (h : Nat) (S : List (Option Addr × Nat)) : List Value := S.map fun s : Option Addr × Nat => Value.slice s.1 h s.2
theorem outs_length (h : Nat) (S : List (Option Addr × Nat)) : (outs h S).length = S.length := by unfold outs; simp
theorem outs_at {h : Nat} {S : List (Option Addr × Nat)} {i : Nat} {s : Option Addr × Nat} (hs : S[i]? = some s) : (outs h S)[i]? = some (.slice s.1 h s.2) := by unfold outs; rw [List.getElem?_map, hs]; rfl
/-- rows of dominoes, each in a block of its own. -/
def Ins (W : World) (lo hi h : Nat) (L : List (List Dm)) (S : List (Option Addr × Nat)) : Prop :=
  S.length = L.length ∧ (∀ (i : Nat) (s : Option Addr × Nat) (x : List Dm), S[i]? = some s → L[i]? = some x → RowIn W lo hi 38 3 (.slice s.1 h s.2) h (rowM x)) ∧ S.Pairwise (fun s t : Option Addr × Nat => Dif s.1 t.1)
/-- a slice of slices of dominoes in memory of one's own. -/
def SSl (W : World) (lo hi : Nat) (A : Option Addr) (m cap h : Nat) (L : List (List Dm)) (S : List (Option Addr × Nat)) : Prop :=
  RowIn W lo hi 27 1 (.slice A m cap) m (outs h S) ∧ Ins W lo hi h L S
def SSIn (W : World) (lo hi : Nat) (A : Option Addr) (m cap h : Nat) (L : List (List Dm)) : Prop := ∃ S, SSl W lo hi A m cap h L S
theorem SSl.length {W : World} {lo hi m cap h : Nat} {A : Option Addr} {L : List (List Dm)} {S : List (Option Addr × Nat)} (k : SSl W lo hi A m cap h L S) : L.length = m ∧ S.length = m := by
  have h1 := k.1.1.1
  rw [outs_length] at h1
  have h2 := k.2.1
  omega
theorem Ins.nil (W : World) (lo hi h : Nat) : Ins W lo hi h [] [] := ⟨rfl, fun i s x hs => by simp at hs, List.Pairwise.nil⟩
theorem RowIn.wide {W : World} {lo hi lo' hi' e size n : Nat} {v : Value} {xs : List Value} (h : RowIn W lo hi e size v n xs) (h1 : lo' ≤ lo) (h2 : hi ≤ hi') : RowIn W lo' hi' e size v n xs :=
  ⟨own_base h.1 h1, fun g hg => by have := h.2 g hg; omega⟩
theorem Ins.wide {W : World} {lo hi lo' hi' h : Nat} {L : List (List Dm)} {S : List (Option Addr × Nat)} (k : Ins W lo hi h L S) (h1 : lo' ≤ lo) (h2 : hi ≤ hi') : Ins W lo' hi' h L S :=
  ⟨k.1, fun i s x hs hx => RowIn.wide (k.2.1 i s x hs hx) h1 h2, k.2.2⟩
theorem Ins.on {W W' : World} {lo hi h : Nat} {L : List (List Dm)} {S : List (Option Addr × Nat)} (k : Ins W lo hi h L S) (hb : Below W.heap.size W W') : Ins W' lo hi h L S :=
  ⟨k.1, fun i s x hs hx => (k.2.1 i s x hs hx).on hb, k.2.2⟩
theorem SSIn.on {W W' : World} {lo hi m cap h : Nat} {A : Option Addr} {L : List (List Dm)} (k : SSIn W lo hi A m cap h L) (hb : Below W.heap.size W W') : SSIn W' lo hi A m cap h L := by
  obtain ⟨S, k1, k2⟩ := k
  exact ⟨S, k1.on hb, k2.on hb⟩
theorem Ins.apart {W W' : World} {lo hi lo' hi' h : Nat} {L : List (List Dm)} {S : List (Option Addr × Nat)} (k : Ins W lo hi h L S) (hb : Apart lo' hi' W W') (hd : hi ≤ lo' ∨ hi' ≤ lo) : Ins W' lo hi h L S :=
  ⟨k.1, fun i s x hs hx => (k.2.1 i s x hs hx).apart hb hd, k.2.2⟩
theorem SSIn.apart {W W' : World} {lo hi lo' hi' m cap h : Nat} {A : Option Addr} {L : List (List Dm)} (k : SSIn W lo hi A m cap h L) (hb : Apart lo' hi' W W') (hd : hi ≤ lo' ∨ hi' ≤ lo) : SSIn W' lo hi A m cap h L := by
  obtain ⟨S, k1, k2⟩ := k
  exact ⟨S, k1.apart hb hd, k2.apart hb hd⟩
theorem SSIn.wide {W : World} {lo hi lo' hi' m cap h : Nat} {A : Option Addr} {L : List (List Dm)} (k : SSIn W lo hi A m cap h L) (h1 : lo' ≤ lo) (h2 : hi ≤ hi') : SSIn W lo' hi' A m cap h L := by
  obtain ⟨S, k1, k2⟩ := k
  exact ⟨S, RowIn.wide k1 h1 h2, k2.wide h1 h2⟩
theorem rows_dif {W : World} {lo hi lo' hi' e e' size size' n n' m m' c c' : Nat} {A A' : Option Addr} {xs xs' : List Value} (h : RowIn W lo hi e size (.slice A m c) n xs) (h' : RowIn W lo' hi' e' size' (.slice A' m' c') n' xs') (hd : hi ≤ lo') : Dif A A' := by
  intro g h1 h2
  have a := h.2 g (by rw [ownBlock_slice]; exact h1)
  have b := (h'.1.lt g (by rw [ownBlock_slice]; exact h2)).1
  omega
/-- rows behind rows. -/
theorem Ins.app {W : World} {lo hi lo' hi' h : Nat} {L L' : List (List Dm)} {S S' : List (Option Addr × Nat)} (k : Ins W lo hi h L S) (k' : Ins W lo' hi' h L' S') (h1 : lo ≤ hi) (hd : hi ≤ lo') (h2 : lo' ≤ hi') : Ins W lo hi' h (L ++ L') (S ++ S') := by
  refine ⟨by rw [List.length_append, List.length_append, k.1, k'.1], fun i s x hs hx => ?_, ?_⟩
  · by_cases hi' : i < S.length
    · rw [List.getElem?_append_left hi'] at hs
      rw [List.getElem?_append_left (by rw [← k.1]; exact hi')] at hx
      exact RowIn.wide (k.2.1 i s x hs hx) (Nat.le_refl _) (by omega)
    · rw [List.getElem?_append_right (by omega)] at hs
      rw [List.getElem?_append_right (by rw [← k.1]; omega), ← k.1] at hx
      exact RowIn.wide (k'.2.1 _ s x hs hx) (by omega) (Nat.le_refl _)
  · rw [List.pairwise_append]
    refine ⟨k.2.2, k'.2.2, fun s hs t ht => ?_⟩
    obtain ⟨i, hi1, e1⟩ := List.getElem_of_mem hs
    obtain ⟨j, hj1, e2⟩ := List.getElem_of_mem ht
    have r1 := k.2.1 i s _ (by rw [List.getElem?_eq_getElem hi1, e1]) (List.getElem?_eq_getElem (by rw [← k.1]; exact hi1))
    have r2 := k'.2.1 j t _ (by rw [List.getElem?_eq_getElem hj1, e2]) (List.getElem?_eq_getElem (by rw [← k'.1]; exact hj1))
    exact rows_dif r1 r2 hd
theorem Ins.one {W : World} {lo hi h c : Nat} {A : Option Addr} {x : List Dm} (k : RowIn W lo hi 38 3 (.slice A h c) h (rowM x)) : Ins W lo hi h [x] [(A, c)] := by
  refine ⟨rfl, fun i s y hs hy => ?_, by simp⟩
  cases i with
  | zero => simp at hs hy; subst hs; subst hy; exact k
  | succ i => simp at hs

/-! What can be read. -/
def RowSS (w : World) (B : Nat) (A : Option Addr) (m h : Nat) (L : List (List Dm)) : Prop :=
  ∃ (b : Nat) (S : List (Option Addr × Nat)), S.length = L.length ∧ (0 < m → A = some ⟨b, 0, none⟩ ∧ b < B) ∧ ∀ (i : Nat) (s : Option Addr × Nat) (x : List Dm), S[i]? = some s → L[i]? = some x → w.cell? ⟨b, i, none⟩ = some (.slice s.1 h s.2) ∧ RowM w B s.1 x
theorem ss_row {W : World} {lo hi m cap h : Nat} {A : Option Addr} {L : List (List Dm)} (k : SSIn W lo hi A m cap h L) : RowSS W W.heap.size A m h L := by
  obtain ⟨S, k⟩ := k
  have hl := k.length
  by_cases h0 : 0 < m
  · obtain ⟨g, c, hv, _, hlt⟩ := k.1.1.form (by omega)
    injection hv with hA
    subst hA
    refine ⟨g, S, k.2.1, fun _ => ⟨rfl, hlt⟩, fun i s x hs hx => ⟨?_, rowM_own (k.2.2.1 i s x hs hx).1⟩⟩
    have := k.1.1.cells (g := g) rfl i _ (outs_at hs)
    rwa [Base.add_plain] at this
  · refine ⟨0, S, k.2.1, fun q => by omega, fun i s x hs hx => ?_⟩
    have := (List.getElem?_eq_some_iff.1 hs).1
    omega
theorem RowSS.below {w w' : World} {B B' : Nat} {A : Option Addr} {m h : Nat} {L : List (List Dm)} (k : RowSS w B A m h L) (hm : L.length = m) (hb : Below B' w w') (hB : B ≤ B') : RowSS w' B A m h L := by
  obtain ⟨b, S, h1, h2, h3⟩ := k
  refine ⟨b, S, h1, h2, fun i s x hs hx => ?_⟩
  obtain ⟨a, c⟩ := h3 i s x hs hx
  have h0 : 0 < m := by have := (List.getElem?_eq_some_iff.1 hx).1; omega
  exact ⟨(hb.cell (p := ⟨b, i, none⟩) (by show b < _; have := (h2 h0).2; omega)).trans a, c.below hb hB⟩

/-- numbers into one of the rows: no other block is touched. -/
theorem markOne (w : World) (lo hi k h c : Nat) (A : Option Addr) (x : List Dm) (hn : ((k + 3 * h : Nat) : Int) ≤ 10000000) (hr : RowIn w lo hi 38 3 (.slice A h c) h (rowM x)) :
    Calls Try.prog 27 #[.slice A h c, .int .i64 (k : Int)] w fun e w' => e = .returned (.int .i64 ((k + 3 * h : Nat) : Int)) ∧ RowIn w' lo hi 38 3 (.slice A h c) h (rowM (marksM k h)) ∧ w.grownBy w' (blk A) := by
  have hg : ∃ g g', RowIn w g g' 38 3 (.slice A h c) h (rowM x) ∧ (∀ j, some j ≠ blk A → j < g ∨ g' ≤ j) := by
    rcases hr.1.2 with ⟨hv, h0⟩ | ⟨g, cap, cur, hv, h1, h2⟩
    · injection hv with hA hn hc
      subst hA
      exact ⟨0, 0, ⟨⟨hr.1.1, .inl ⟨by rw [hn, hc], h0⟩⟩, fun g hg => by cases hg⟩, fun j _ => .inr (Nat.zero_le _)⟩
    · injection hv with hA hn hc
      subst hA
      refine ⟨g, g + 1, ⟨⟨hr.1.1, .inr ⟨g, cap, cur, by rw [← hc], Nat.le_refl _, h2⟩⟩, fun q hq => ?_⟩, fun j hj => ?_⟩
      · simp [Value.ownBlock] at hq; omega
      · simp [blk] at hj; omega
  obtain ⟨g, g', hg, hz⟩ := hg
  refine (markDoms w g g' k h c A x hn hg).mono ?_
  rintro e w' ⟨he, h1, h2⟩
  refine ⟨he, ⟨⟨h1.1.1, ?_⟩, fun q hq' => hr.2 q hq'⟩, h2.os, h2.tape, h2.output, h2.size, fun j hj hne => h2.block j hj (hz j hne)⟩
  rcases h1.1.2 with a | ⟨g', cap, cur, hv, a1, a2⟩
  · exact .inl a
  · refine .inr ⟨g', cap, cur, hv, ?_, a2⟩
    exact (hr.1.lt g' (by rw [hv]; rfl)).1
/-- rows of numbers. -/
def marksL (k h m : Nat) : List (List Dm) := (List.range m).map fun i => marksM (k + 3 * h * i) h
theorem marksL_length (k h m : Nat) : (marksL k h m).length = m := by unfold marksL; simp
theorem marksL_at {k h m i : Nat} (hi : i < m) : (marksL k h m)[i]? = some (marksM (k + 3 * h * i) h) := by unfold marksL; rw [List.getElem?_map, List.getElem?_range hi]; rfl
theorem marksL_all {k h m : Nat} : ∀ x ∈ marksL k h m, x.length = h := by
  intro x hx
  obtain ⟨i, _, rfl⟩ := List.mem_map.1 hx
  exact marksM_length _ _
/-- the rows while numbers are written. -/
def midL (k h j : Nat) (L : List (List Dm)) : List (List Dm) := marksL k h j ++ L.drop j
theorem midL_at {k h j i : Nat} {L : List (List Dm)} {x : List Dm} (hj : j ≤ L.length) (hx : (midL k h j L)[i]? = some x) : (i < j ∧ x = marksM (k + 3 * h * i) h) ∨ (j ≤ i ∧ L[i]? = some x) := by
  unfold midL at hx
  by_cases h : i < j
  · rw [List.getElem?_append_left (by rw [marksL_length]; exact h), marksL_at h] at hx
    exact .inl ⟨h, (Option.some.inj hx).symm⟩
  · rw [List.getElem?_append_right (by rw [marksL_length]; omega), marksL_length, List.getElem?_drop, show j + (i - j) = i by omega] at hx
    exact .inr ⟨by omega, hx⟩
theorem midL_one {k h j : Nat} {L : List (List Dm)} {x : List Dm} (hj : L[j]? = some x) : (midL k h j L)[j]? = some x := by
  unfold midL
  rw [List.getElem?_append_right (by rw [marksL_length]; omega), marksL_length, List.getElem?_drop, show j + (j - j) = j by omega]
  exact hj
/-- one row more has its numbers. -/
theorem ss_mark {w w' : World} {lo hi m cap h k j : Nat} {A : Option Addr} {L : List (List Dm)} {S : List (Option Addr × Nat)} (hj : j < L.length) (hsj : j < S.length) (q : SSl w lo hi A m cap h (midL k h j L) S)
    (hr : RowIn w' lo hi 38 3 (.slice S[j].1 h S[j].2) h (rowM (marksM (k + 3 * h * j) h))) (hg : w.grownBy w' (blk S[j].1)) :
    SSl w' lo hi A m cap h (midL k h (j + 1) L) S := by
  have hlen : (midL k h (j + 1) L).length = (midL k h j L).length := by
    unfold midL
    rw [List.length_append, List.length_append, marksL_length, marksL_length, List.length_drop, List.length_drop]
    omega
  have hj1 : L[j]? = some L[j] := List.getElem?_eq_getElem hj
  have r0 := q.2.2.1 j S[j] L[j] (List.getElem?_eq_getElem hsj) (midL_one hj1)
  refine ⟨⟨q.1.1.kept hg ?_, q.1.2⟩, by rw [hlen]; exact q.2.1, fun i s x hs hx => ?_, q.2.2.2⟩
  · rw [ownBlock_slice]
    have hd := dif_types q.1.1 r0.1 (by decide)
    cases hA : blk A with
    | none => exact .inl rfl
    | some g => exact .inr (fun e => hd g hA e.symm)
  · by_cases e : i = j
    · subst e
      rw [List.getElem?_eq_getElem hsj] at hs
      obtain rfl := Option.some.inj hs
      rcases midL_at (by omega) hx with ⟨_, rfl⟩ | ⟨a, _⟩
      · exact hr
      · omega
    · have hx' : (midL k h j L)[i]? = some x := by
        rcases midL_at (by omega) hx with ⟨a, rfl⟩ | ⟨a, b⟩
        · unfold midL
          rw [List.getElem?_append_left (by rw [marksL_length]; omega), marksL_at (by omega)]
        · unfold midL
          rw [List.getElem?_append_right (by rw [marksL_length]; omega), marksL_length, List.getElem?_drop, show j + (i - j) = i by omega]
          exact b
      have r := q.2.2.1 i s x hs hx'
      refine ⟨r.1.kept hg ?_, r.2⟩
      rw [ownBlock_slice]
      have hp := List.pairwise_iff_getElem.1 q.2.2.2
      have his := (List.getElem?_eq_some_iff.1 hs).1
      have hsi : S[i] = s := (List.getElem?_eq_some_iff.1 hs).2
      have hd : Dif s.1 S[j].1 := by
        rw [← hsi]
        by_cases c : i < j
        · exact hp i j his hsj c
        · exact (hp j i hsj his (by omega)).symm
      cases hA : blk s.1 with
      | none => exact .inl rfl
      | some g => exact .inr (fun e => hd g hA e.symm)
theorem grown_apart {w w' : World} {lo hi : Nat} {r : Option Nat} (h : w.grownBy w' r) (hr : ∀ g, r = some g → lo ≤ g ∧ g < hi) : Apart lo hi w w' :=
  ⟨h.os, h.tape, h.output, h.size, fun k hk q => h.block k hk (fun e => by have := hr k e.symm; omega)⟩
theorem own_max {W : World} {lo e size n : Nat} {v : Value} {xs : List Value} (h : W.ownsRow lo e size v n xs) : (n : Int) ≤ 9223372036854775807 := by
  rcases h.2 with ⟨_, h0⟩ | ⟨g, cap, cur, _, _, _, h1, h2, _⟩
  · omega
  · unfold maxLen at h2; omega
end Go.Proofs.Ytkjoonmnedofiaa.Dss

/- DominoAt: the program's function and the model's find the same first domino over a cell in every list. -/
namespace Go.Proofs.Ytkjoonmnedofiaa.Til
set_option linter.unusedVariables false
set_option linter.unusedSimpArgs false
open Go.RowKit Go.Proofs.Ytkjoonmnedofiaa.Base Go.Proofs.Ytkjoonmnedofiaa.Pure Go.Proofs.Ytkjoonmnedofiaa.Cell Go.Proofs.Ytkjoonmnedofiaa.Dom Go.Proofs.Ytkjoonmnedofiaa.Dms Go.Joins

/-- the box of a cell, in a world behind its making. -/
def Bc (w : World) (x y : Int) (W : World) : Prop := Below w.heap.size w W ∧ At2 W w.heap.size x y
theorem bc_start (x y : Int) (w : World) : Bc w x y (w.alloc (.cells #[.int .i64 x, .int .i64 y] 35)) := ⟨below_alloc1 w _, At2.new w x y⟩
theorem Bc.on {w W W' : World} {x y : Int} (h : Bc w x y W) (hb : Below W.heap.size W W') : Bc w x y W' := ⟨h.1.trans (hb.mono h.1.size), h.2.on hb⟩
theorem Bc.drew {w W : World} {x y : Int} (h : Bc w x y W) : Bc w x y W.drew := ⟨h.1.drew, h.2⟩
/-- none of the first k dominoes covers the cell. -/
def Miss (L : List Dm) (x y : Int) (k : Nat) : Prop := ∀ j e, j < k → L[j]? = some e → covM e x y = false
theorem Miss.zero (L : List Dm) (x y : Int) : Miss L x y 0 := fun j e h => by omega
theorem Miss.succ {L : List Dm} {x y : Int} {k : Nat} (h : Miss L x y k) {d : Dm} (hd : L[k]? = some d) (hc : covM d x y = false) : Miss L x y (k + 1) := by
  intro j e hj he
  by_cases hjk : j = k
  · subst hjk; rw [hd] at he; injection he with he; subst he; exact hc
  · exact h j e (by omega) he
theorem Miss.hit {L : List Dm} {x y : Int} {k : Nat} (h : Miss L x y k) {d : Dm} (hd : L[k]? = some d) (hc : covM d x y = true) : atI L x y = (k : Int) := atI_hit h hd hc
theorem Miss.all {L : List Dm} {x y : Int} (h : Miss L x y L.length) : atI L x y = -1 := atI_miss h

set_option maxRecDepth 100000 in
set_option maxHeartbeats 1000000 in
theorem sDominoAt (w : World) (A : Option Addr) (n cap B : Nat) (L : List Dm) (hL : L.length = n) (hn : (n : Int) ≤ 9223372036854775807) (h : RowM w B A L) (hB : B ≤ w.heap.size) (x y : Int) :
    Calls Try.prog 89 #[.slice A n cap, .agg #[.int .i64 x, .int .i64 y]] w (Num (atI L x y) w) := by
  obtain ⟨b0, off, h1, h2⟩ := h.at
  have HA := Lib.hid (fun hp => h1 hp)
  have HC := Lib.hid h2
  have HL := Lib.hid hL
  have HB := Lib.hid hB
  have HS := Lib.hid (bc_start x y w)
  clear h h1 h2 hL hB
  go_enter Try.func89, Try.ntmps89
  go_wp2_with fail
  go_loopw [5] (fun i wr => ∃ j : Nat, j ≤ n ∧ i = .int .i64 j ∧ Bc w x y wr ∧ Hid (Miss L x y j)) (fun i _ => n - (intOf i).toNat)
  case atStart => exact ⟨0, Nat.zero_le _, rfl, HS.out, Lib.hid (Miss.zero _ _ _)⟩
  case round =>
    clear HS
    obtain ⟨j, hj, rfl, hT, hM⟩ := hrel
    have hbs := hT.1.size
    by_cases hlt : j < n
    · have hjL : j < L.length := by have := HL.out; omega
      obtain ⟨rfl, hbB⟩ := HA.out (by omega)
      obtain ⟨c0, c1, c2⟩ := HC.out j hjL
      have hbw : b0 < w.heap.size := by have := HB.out; omega
      have c0 := (hT.1.cell (p := ⟨b0, off + j * 3, none⟩) hbw).trans c0
      have c1 := (hT.1.cell (p := ⟨b0, off + j * 3 + 1, none⟩) hbw).trans c1
      have c2 := (hT.1.cell (p := ⟨b0, off + j * 3 + 2, none⟩) hbw).trans c2
      have HD := Lib.hid (List.getElem?_eq_getElem (l := L) hjL)
      generalize L[j] = d at c0 c1 c2 HD
      obtain ⟨u, v, b⟩ := d
      simp only at c0 c1 c2
      have HO := Lib.hid (fun W => sDominoOk u v b W)
      have HU := Lib.hid (fun hd W => sCellsUnder_ok u v b hd W)
      have HK := Lib.hid (show covM (u, v, b) x y = (domB u v b && (eqB x y u v || eqB x y (sx u b) (sy v b))) from rfl)
      generalize domB u v b = p at HO HU HK
      generalize sx u b = m at HU HK
      generalize sy v b = q at HU HK
      have HT := Lib.hid hT
      go_wp2_with fail
      refine (HO.out _).mono ?_
      rintro e w1 ⟨rfl, hb1⟩
      have T1 := HT.out.on hb1
      clear HO HT hT hbs
      cases p with
      | false =>
        have HM := Lib.hid (hM.out.succ HD.out (by rw [HK.out]; rfl))
        clear c0 c1 c2 HU HK hM HD hb1
        go_wp2
        go_roundw
        case rel => exact ⟨j + 1, by omega, by go_num, T1, HM⟩
        case measure => (simp [intOf] <;> omega)
      | true =>
        have hwr : b0 < wr.heap.size := World.block_lt_of_cell? _ _ c0
        have c0 := (hb1.cell (p := ⟨b0, off + j * 3, none⟩) hwr).trans c0
        have c1 := (hb1.cell (p := ⟨b0, off + j * 3 + 1, none⟩) hwr).trans c1
        have c2 := (hb1.cell (p := ⟨b0, off + j * 3 + 2, none⟩) hwr).trans c2
        clear hb1
        go_wp2_with fail
        refine (HU.out trivial _).mono ?_
        rintro e w2 ⟨rfl, hb2⟩
        have T2 := T1.on hb2
        clear c0 c1 c2 T1 hb2 HU
        go_upto_region 6 with fail
        obtain ⟨k1, k2, k3⟩ := at2_two w2 u v m q
        have T3 := T2.on k3
        generalize (w2.alloc (.cells #[.int .i64 u, .int .i64 v] 35)).alloc (.cells #[.int .i64 m, .int .i64 q] 35) = W at k1 k2 T3 ⊢
        have c0 := k1.c0
        have c1 := k1.c1
        have c2 := k2.c0
        have c3 := k2.c1
        have c4 := T3.2.c0
        have c5 := T3.2.c1
        have HY := Lib.hid (fun (hh : (u = x ∧ v = y) ∨ (m = x ∧ q = y)) => hM.out.hit HD.out (by rw [HK.out]; simp [eqB_iff]; rcases hh with ⟨rfl, rfl⟩ | ⟨rfl, rfl⟩ <;> simp))
        have HN := Lib.hid (fun (hh : ¬ ((u = x ∧ v = y) ∨ (m = x ∧ q = y))) => hM.out.succ HD.out (by rw [HK.out, Bool.true_and, Bool.eq_false_iff]; intro hc; simp only [Bool.or_eq_true, eqB_iff] at hc; exact hh (by omega)))
        have HT3 := Lib.hid T3
        clear k1 k2 k3 T2 T3 HK hM HD
        go_wp2
        all_goals first
          | (go_ret; rw [HY.out (by omega)]; exact ⟨rfl, HT3.out.1⟩)
          | (refine ⟨⟨j + 1, by omega, by go_num, HT3.out, Lib.hid (HN.out (by omega))⟩, ?_⟩; simp [intOf] <;> omega)
    · obtain rfl : j = n := by omega
      have HE := Lib.hid (show atI L x y = -1 from Miss.all (by rw [HL.out]; exact hM.out))
      go_wp2
      go_ret
      rw [HE.out]
      exact ⟨rfl, hT.1⟩
end Go.Proofs.Ytkjoonmnedofiaa.Til

/- HasCell: the program's function and the model's say the same of every region and every cell. -/
namespace Go.Proofs.Ytkjoonmnedofiaa.Reg
set_option linter.unusedVariables false
open Go.RowKit Go.Proofs.Ytkjoonmnedofiaa.Base Go.Proofs.Ytkjoonmnedofiaa.Pure Go.Proofs.Ytkjoonmnedofiaa.Cell Go.Joins

/-- two parameters' boxes, a region's and a cell's, in a world behind their making. -/
def RC (w : World) (v : Value) (x y : Int) (W : World) : Prop :=
  Below w.heap.size w W ∧ w.heap.size + 2 ≤ W.heap.size ∧ W.cell? ⟨w.heap.size, 0, none⟩ = some v ∧ W.cell? ⟨w.heap.size + 1, 0, none⟩ = some (.int .i64 x) ∧ W.cell? ⟨w.heap.size + 1, 1, none⟩ = some (.int .i64 y)
theorem rc_start {T T' : TypeId} (v : Value) (x y : Int) (w : World) : RC w v x y ((w.alloc (.cells #[v] T)).alloc (.cells #[.int .i64 x, .int .i64 y] T')) := by
  have e1 : ((w.alloc (.cells #[v] T)).alloc (.cells #[.int .i64 x, .int .i64 y] T')).heap[w.heap.size]? = some (.cells #[v] T) := by
    show ((w.heap.push _).push _)[w.heap.size]? = _
    rw [Array.getElem?_push_lt (by simp)]
    simp
  have e2 : ((w.alloc (.cells #[v] T)).alloc (.cells #[.int .i64 x, .int .i64 y] T')).heap[w.heap.size + 1]? = some (.cells #[.int .i64 x, .int .i64 y] T') := by
    show ((w.heap.push _).push _)[w.heap.size + 1]? = _
    have : w.heap.size + 1 = (w.heap.push (.cells #[v] T)).size := by simp
    rw [this]
    exact Array.getElem?_push_size
  exact ⟨below_alloc2 w _ _, by simp, (cell_of_row _ _ 0 _ _ _ e1).trans rfl, (cell_of_row _ _ 0 _ _ _ e2).trans rfl, (cell_of_row _ _ 1 _ _ _ e2).trans rfl⟩
theorem RC.on {w W W' : World} {v : Value} {x y : Int} (h : RC w v x y W) (hb : Below W.heap.size W W') : RC w v x y W' := by
  obtain ⟨h0, h1, h2, h3, h4⟩ := h
  have hz := hb.size
  refine ⟨h0.trans (hb.mono h0.size), by omega, ?_, ?_, ?_⟩
  · rw [hb.cell (by show w.heap.size < _; omega)]; exact h2
  · rw [hb.cell (by show w.heap.size + 1 < _; omega)]; exact h3
  · rw [hb.cell (by show w.heap.size + 1 < _; omega)]; exact h4
theorem RC.drew {w W : World} {v : Value} {x y : Int} (h : RC w v x y W) : RC w v x y W.drew := ⟨h.1.drew, h.2⟩
theorem RC.drewN {w W : World} {v : Value} {x y : Int} (h : RC w v x y W) (n : Nat) : RC w v x y (W.drewN n) := ⟨drewN_below h.1 n, h.2⟩

theorem has_no_ok {xs : List Int} (h : ¬ okR xs) (x y : Int) : hasB xs x y = false := by
  rw [Bool.eq_false_iff]; intro k; exact h (hasB_iff.1 k).1
theorem has_no_cell {xs : List Int} {x y : Int} (h : ¬ Ok x y) : hasB xs x y = false := by
  rw [Bool.eq_false_iff]; intro k; exact h ⟨(hasB_iff.1 k).2.1, (hasB_iff.1 k).2.2.1, (hasB_iff.1 k).2.2.2.1, (hasB_iff.1 k).2.2.2.2.1⟩
theorem has_at {xs : List Int} (h : okR xs) {x y : Nat} (hx : x < 8) (hy : y < 8) : hasB xs (x : Int) (y : Int) = bitB (rowD xs y) x := by
  rw [Bool.eq_iff_iff, hasB_iff, Int.toNat_natCast, Int.toNat_natCast]
  constructor
  · exact fun k => k.2.2.2.2.2
  · exact fun k => ⟨h, by omega, by omega, by omega, by omega, k⟩
theorem ok_nat {x y : Int} (h : Ok x y) : ∃ (x' y' : Nat), x = (x' : Int) ∧ y = (y' : Int) ∧ x' < 8 ∧ y' < 8 := by
  obtain ⟨a, b, c, d⟩ := h
  exact ⟨x.toNat, y.toNat, by omega, by omega, by omega, by omega⟩

set_option maxRecDepth 100000 in
set_option maxHeartbeats 1000000 in
theorem sHasCell (w : World) (A : Option Addr) (n cap B : Nat) (xs : List Int) (hx : xs.length = n) (hn : (n : Int) ≤ 9223372036854775807) (h : RowB w B A xs) (hB : B ≤ w.heap.size) (x y : Int) :
    Calls Try.prog 72 #[.agg #[.slice A n cap], .agg #[.int .i64 x, .int .i64 y]] w (Bol (hasB xs x y) w) := by
  have T0 := Lib.hid (fun T T' => rc_start (T := T) (T' := T') (.slice A n cap) x y w)
  have HOk := Lib.hid (fun W (hr : RC w (.slice A n cap) x y W) => sRegionOk W A n cap B xs hx hn (h.below hr.1 hB) (by have := hr.2.1; omega))
  have HHs := Lib.hid (fun W (x' y' : Nat) (ho : okR xs) (hr : RC w (.slice A n cap) x y W) hx8 hy8 => sHas W A n cap B xs hx ho (h.below hr.1 hB) (by have := hr.2.1; omega) x' y' hx8 hy8)
  clear hx hn h hB
  go_enter Try.func72, Try.ntmps72
  go_wp2_with fail
  have T1 := T0.out 26 35
  refine (HOk.out _ T1).mono ?_
  rintro e w1 ⟨rfl, hb1⟩
  have T2 := T1.on hb1
  clear T0 T1 hb1 HOk
  by_cases ho : okR xs
  · rw [okRB_of ho]
    obtain ⟨_, _, c0, c1, c2⟩ := id T2
    go_wp2_with fail
    refine (sCellOk x y _).mono ?_
    rintro e w2 ⟨rfl, hb2⟩
    have T3 := T2.on hb2
    clear T2 c0 c1 c2 hb2
    by_cases hok : Ok x y
    · rw [okB_of hok]
      obtain ⟨x', y', rfl, rfl, hx8, hy8⟩ := ok_nat hok
      have HE := Lib.hid (has_at ho hx8 hy8)
      obtain ⟨_, _, c0, c1, c2⟩ := id T3
      have HC := Lib.hid (HHs.out w2 x' y' ho T3 hx8 hy8)
      clear HHs hok hx8 hy8 ho
      go_wp2_with fail
      refine HC.out.mono ?_
      rintro e w3 ⟨rfl, hb3⟩
      have hb := (T3.on hb3).1
      clear T3 HC hb3 c0 c1 c2
      go_wp2
      go_ret
      exact mkBol HE.out.symm hb
    · rw [okB_not hok]
      have HE := Lib.hid (has_no_cell (xs := xs) hok)
      have hb := T3.1
      clear T3 hok ho HHs
      go_wp2
      go_ret
      exact mkBol HE.out.symm hb
  · rw [okRB_not ho]
    have HE := Lib.hid (has_no_ok ho x y)
    have hb := T2.1
    clear T2 ho HHs
    go_wp2
    go_ret
    exact mkBol HE.out.symm hb

end Go.Proofs.Ytkjoonmnedofiaa.Reg

/- UncoveredOf: the program's function and the model's list the same cells, in memory of their own. -/
namespace Go.Proofs.Ytkjoonmnedofiaa.Til
set_option linter.unusedVariables false
set_option linter.unusedSimpArgs false
open Go.RowKit Go.Proofs.Ytkjoonmnedofiaa.Base Go.Proofs.Ytkjoonmnedofiaa.Pure Go.Proofs.Ytkjoonmnedofiaa.Cell Go.Proofs.Ytkjoonmnedofiaa.Cels Go.Proofs.Ytkjoonmnedofiaa.Dom Go.Proofs.Ytkjoonmnedofiaa.Dms Go.Joins
open Go.Proofs.Ytkjoonmnedofiaa.Reg hiding Yes add_none

theorem unc_case (L : List Dm) (C : List (Int × Int)) {k : Nat} (hk : k < C.length) : (atI L C[k].1 C[k].2 < 0 ∧ unc L (C.take (k + 1)) = unc L (C.take k) ++ [C[k]]) ∨ (¬ atI L C[k].1 C[k].2 < 0 ∧ unc L (C.take (k + 1)) = unc L (C.take k)) := by
  have h := atI_neg (L := L) (x := C[k].1) (y := C[k].2)
  cases ha : anyM L C[k].1 C[k].2 with
  | false => rw [ha] at h; exact .inl ⟨by simpa using h, unc_yes hk ha⟩
  | true => rw [ha] at h; exact .inr ⟨by simpa using h, unc_no hk ha⟩
/-- cells in block b can be read. -/
def RdC (W : World) (b off : Nat) (C : List (Int × Int)) : Prop :=
  (0 < C.length → b < W.heap.size) ∧ ∀ j p, C[j]? = some p → W.cell? ⟨b, off + j * 2, none⟩ = some (.int .i64 p.1) ∧ W.cell? ⟨b, off + j * 2 + 1, none⟩ = some (.int .i64 p.2)
theorem RdC.same {W W' : World} {b off : Nat} {C : List (Int × Int)} (h : RdC W b off C) (hz : W.heap.size ≤ W'.heap.size) (hb : 0 < C.length → W'.heap[b]? = W.heap[b]?) : RdC W' b off C := by
  refine ⟨fun h0 => Nat.lt_of_lt_of_le (h.1 h0) hz, fun j p hp => ?_⟩
  have h0 : 0 < C.length := by have := (List.getElem?_eq_some_iff.1 hp).1; omega
  obtain ⟨a, c⟩ := h.2 j p hp
  exact ⟨(World.cell?_of_block (a := ⟨b, off + j * 2, none⟩) (hb h0)).trans a, (World.cell?_of_block (a := ⟨b, off + j * 2 + 1, none⟩) (hb h0)).trans c⟩
theorem RdC.on {W W' : World} {b off : Nat} {C : List (Int × Int)} (h : RdC W b off C) (hb : Below W.heap.size W W') : RdC W' b off C := h.same hb.size fun h0 => hb.block b (h.1 h0)
theorem RdC.grown {W W' : World} {b off g : Nat} {C : List (Int × Int)} (h : RdC W b off C) (hg : W.grownBy W' (some g)) (hne : 0 < C.length → g ≠ b) : RdC W' b off C :=
  h.same hg.size fun h0 => hg.block b (h.1 h0) (by intro e; injection e with e; exact hne h0 e.symm)

set_option maxRecDepth 100000 in
set_option maxHeartbeats 2000000 in
theorem sUncoveredOf (w : World) (A : Option Addr) (n cap B : Nat) (xs : List Int) (hx : xs.length = n) (hn : (n : Int) ≤ 9223372036854775807) (h : RowB w B A xs) (hB : B ≤ w.heap.size)
    (A' : Option Addr) (n' cap' B' : Nat) (L : List Dm) (hL : L.length = n') (hn' : (n' : Int) ≤ 9223372036854775807) (h' : RowM w B' A' L) (hB' : B' ≤ w.heap.size) :
    Calls Try.prog 88 #[.agg #[.slice A n cap], .slice A' n' cap'] w (NbPost (unc L (cellsR xs)) w) := by
  obtain ⟨i0, hi, hz0, hz1, hz2⟩ := info_parts cellInfo
  have HM := Lib.hid (fun (W : World) => World.ownsRow_made (e := 35) (size := 2) W #[] 0 (Nat.le_refl _) (by unfold maxLen; omega) rfl)
  have HC := Lib.hid (fun W (hb : Below w.heap.size w W) => sCellsOf W A n cap B xs hx hn (h.below hb hB) (by have := hb.size; omega))
  have HA := Lib.hid (fun W (hb : Below w.heap.size w W) x y => sDominoAt W A' n' cap' B' L hL hn' (h'.below hb hB') (by have := hb.size; omega) x y)
  have HS := Lib.hid (fun (o : Obj) => below_alloc1 w o)
  have HLC := cellsR_length xs
  generalize cellsR xs = C at HC HLC ⊢
  have HU := Lib.hid (fun k (hk : k < C.length) => unc_case L C hk)
  have HUL := Lib.hid (fun k => unc_length L (C.take k))
  clear hx hn h hB hL hn' h' hB'
  go_enter Try.func88, Try.ntmps88
  go_wp2_with fail
  have hbw0 := HS.out (.cells #[.slice A n cap] 26)
  have hown0 := HM.out (w.alloc (.cells #[.slice A n cap] 26))
  have hz0w : (w.alloc (.cells #[.slice A n cap] 26)).heap.size = w.heap.size + 1 := by simp
  generalize w.alloc (.cells #[.slice A n cap] 26) = W0 at hbw0 hown0 hz0w ⊢
  have hbw := hbw0.alloc hbw0.size (.cells #[] 35)
  have hz1w : (W0.alloc (.cells #[] 35)).heap.size = w.heap.size + 2 := by simp [hz0w]
  rw [hz0w] at hown0
  generalize W0.alloc (.cells #[] 35) = W1 at hbw hown0 hz1w ⊢
  refine (HC.out _ hbw).mono ?_
  rintro e w1 ⟨A1, cap1, rfl, hown1, hb1⟩
  have hbw1 := hbw.trans (hb1.mono hbw.size)
  obtain ⟨b, off, hA1, hR1⟩ := rowC_own hown1
  have R1 : RdC w1 b off C := ⟨fun h0 => (hA1 h0).2, hR1⟩
  have hb2 : 0 < C.length → w.heap.size + 2 ≤ b := fun h0 => by
    obtain ⟨g, c, hv, hg, _⟩ := hown1.form h0
    have e := (hA1 h0).1
    rw [e] at hv
    injection hv with hv
    injection hv with hv
    injection hv with hv
    omega
  have HA1 := Lib.hid (fun h0 => (hA1 h0).1)
  have HOwn0 := Lib.hid (Reg.own_base (B' := w.heap.size + 1) (Reg.own_below hown0 hb1 (Nat.le_refl _)) (by omega))
  have HB1 := Lib.hid hb1.size
  clear HC HS hb1 hA1 hR1 hbw0 hbw hz0w hown0 hown1 HM
  go_wp2_with fail
  go_loopw [5, 7] (fun v i wr => ∃ j g c : Nat, j ≤ C.length ∧ i = .int .i64 j ∧ v = .slice (some ⟨g, 0, none⟩) (unc L (C.take j)).length c ∧ wr.ownsRow (w.heap.size + 1) 35 2 v (unc L (C.take j)).length (rowC (unc L (C.take j))) ∧ Below w.heap.size w wr ∧ RdC wr b off C ∧ Hid (0 < C.length → g ≠ b)) (fun _ i _ => C.length - (intOf i).toNat)
  case atStart => exact ⟨0, w.heap.size + 1, 0, Nat.zero_le _, rfl, by simp [unc], by simpa [unc, rowC] using HOwn0.out, hbw1, R1, Lib.hid (fun h0 => by have := hb2 h0; omega)⟩
  case round =>
    clear HOwn0 R1 hbw1
    obtain ⟨j, g, cg, hj, rfl, rfl, hown, hb, R1, hg⟩ := hrel
    have hbs := hb.size
    by_cases hlt : j < C.length
    · obtain rfl := HA1.out (by omega)
      obtain ⟨c0, c1⟩ := R1.2 j C[j] (List.getElem?_eq_getElem hlt)
      have HCs := Lib.hid (HU.out j hlt)
      generalize hcc : C[j] = c at c0 c1 HCs
      obtain ⟨x, y⟩ := c
      simp only at c0 c1
      have HQ := Lib.hid (fun W (hb : Below w.heap.size w W) => HA.out W hb x y)
      generalize atI L x y = q at HQ HCs
      have hLn := HUL.out j
      have HOwn := Lib.hid hown
      clear hown
      have hj64 : (unc L (C.take j)).length ≤ 64 := by have : (C.take j).length ≤ C.length := by rw [List.length_take]; omega
                                                       omega
      generalize hU : unc L (C.take j) = U at HOwn HCs hj64
      clear hLn
      go_wp2_with fail
      refine (HQ.out _ hb).mono ?_
      rintro e w2 ⟨rfl, hE⟩
      have HOwn2 := Lib.hid (Reg.own_below HOwn.out hE (Nat.le_refl _))
      have hB2 := hb.trans (hE.mono hbs)
      have hs2 := hE.size
      have R2 := R1.on hE
      obtain ⟨d0, d1⟩ := R2.2 j (x, y) (by rw [← hcc]; exact List.getElem?_eq_getElem hlt)
      simp only at d0 d1
      clear c0 c1 hE HOwn HQ hb hcc R1
      rcases HCs.out with ⟨hq, hN⟩ | ⟨hq, hN⟩
      · have HN := Lib.hid hN
        clear hN HCs
        go_wp2_with (first
          | (at_builtin; refine wpList_append_lies _ rfl _ _ 30 rfl (w.heap.size + 1) 35 i0 (.agg #[.int .i64 0, .int .i64 0]) 2 16 Try.underlying30 hi hz0 hz1 hz2 rfl (by decide) (.slice (some ⟨g, 0, none⟩) U.length cg) U.length (rowC U) (by rfl) (HOwn2.out.alloc _) ⟨w2.heap.size, 0, none⟩ 1 1 [.int .i64 x, .int .i64 y] (by rfl) rfl (World.news_of_block (cs := #[.int .i64 x, .int .i64 y]) (t := 35) (fr := (0, 0)) (heap_alloc_new w2 _)) (by simp [Value.oneCell']) (by decide) (by unfold maxLen; omega) (by omega) (by simp; omega) (w2.heap.size + 1) (by simp) ?_; intro gg capn w3 hown3 hgrow hat hlt3))
        have hgg := HOwn2.out.lt g rfl
        have hb3 : Below w.heap.size w w3 := (hB2.alloc (by omega) _).grown hgrow (by simp; omega) (fun k hk => by have hk2 : g = k := by { injection hk }; omega)
        have R3 : RdC w3 b off C := (R2.on (below_alloc1 w2 _)).grown hgrow hg.out
        have hg3 : 0 < C.length → gg ≠ b := fun h0 => by
          rcases hat with e | e
          · injection e with e; subst e; exact hg.out h0
          · have := R2.1 h0; omega
        have R := Lib.hid (show w3.ownsRow (w.heap.size + 1) 35 2 (.slice (some ⟨gg, 0, none⟩) (U ++ [(x, y)]).length capn) (U ++ [(x, y)]).length (rowC (U ++ [(x, y)])) by
          rw [rowC_snoc, List.length_append]; exact hown3)
        have HG3 := Lib.hid hg3
        have HLn : (U ++ [(x, y)]).length = U.length + 1 := by simp
        clear hown3 hgrow hat hlt3 hgg R2 d0 d1 hU hg3 HOwn2 hB2
        go_wp2
        go_roundw
        case rel => exact ⟨j + 1, gg, capn, by omega, by go_num, by rw [HN.out, HLn], by rw [HN.out]; have := R.out; rw [HLn] at this ⊢; exact this, hb3, R3, HG3⟩
        case measure => (simp [intOf] <;> omega)
      · have HN := Lib.hid hN
        clear hN HCs hU d0 d1
        go_wp2
        go_roundw
        case rel => exact ⟨j + 1, g, cg, by omega, by go_num, by rw [HN.out], by rw [HN.out]; exact HOwn2.out, hB2, R2, hg⟩
        case measure => (simp [intOf] <;> omega)
    · obtain rfl : j = C.length := by omega
      have HOwn := Lib.hid hown
      clear hown
      go_wp2
      go_ret
      rw [List.take_length] at HOwn
      rw [List.take_length]
      exact ⟨_, _, rfl, Reg.own_base HOwn.out (by omega), hb⟩
end Go.Proofs.Ytkjoonmnedofiaa.Til

/- IsPartial, the program's: may a domino come behind others; all of a list, one behind the other. -/
namespace Go.Proofs.Ytkjoonmnedofiaa.Til
set_option linter.unusedVariables false
set_option linter.unusedSimpArgs false
open Go.RowKit Go.Proofs.Ytkjoonmnedofiaa.Base Go.Proofs.Ytkjoonmnedofiaa.Pure Go.Proofs.Ytkjoonmnedofiaa.Cell Go.Proofs.Ytkjoonmnedofiaa.Cels Go.Proofs.Ytkjoonmnedofiaa.Dom Go.Proofs.Ytkjoonmnedofiaa.Dms Go.Joins
open Go.Proofs.Ytkjoonmnedofiaa.Reg hiding Yes add_none

/-- a region's box in block q. -/
def Rg (W : World) (q : Nat) (v : Value) : Prop := W.heap[q]? = some (.cells #[v] 26)
theorem Rg.on {W W' : World} {q : Nat} {v : Value} (h : Rg W q v) (hb : Below W.heap.size W W') : Rg W' q v := (hb.block q (Array.getElem?_eq_some_iff.1 h).1).trans h
theorem Rg.c0 {W : World} {q : Nat} {v : Value} (h : Rg W q v) : W.cell? ⟨q, 0, none⟩ = some v := (cell_of_row _ _ 0 _ _ _ h).trans rfl
theorem Rg.lt {W : World} {q : Nat} {v : Value} (h : Rg W q v) : q < W.heap.size := (Array.getElem?_eq_some_iff.1 h).1
theorem Rg.new (W : World) (v : Value) : Rg (W.alloc (.cells #[v] 26)) W.heap.size v := heap_alloc_new W _
/-- the boxes of a region and a cell, of a region and a domino. -/
def RC (w : World) (v : Value) (x y : Int) (W : World) : Prop := Below w.heap.size w W ∧ Rg W w.heap.size v ∧ At2 W (w.heap.size + 1) x y
def RD (w : World) (v : Value) (x y : Int) (b : Bool) (W : World) : Prop := Below w.heap.size w W ∧ Rg W w.heap.size v ∧ At3 38 W (w.heap.size + 1) x y b
theorem rc_start (w : World) (v : Value) (x y : Int) : RC w v x y ((w.alloc (.cells #[v] 26)).alloc (.cells #[.int .i64 x, .int .i64 y] 35)) := by
  have h1 := Rg.new w v
  have hb := below_alloc1 w (.cells #[v] 26)
  have hz : (w.alloc (.cells #[v] 26)).heap.size = w.heap.size + 1 := by simp
  generalize w.alloc (.cells #[v] 26) = W at h1 hb hz ⊢
  have h2 := At2.new W x y
  rw [hz] at h2
  exact ⟨hb.alloc hb.size _, h1.on (below_alloc1 W _), h2⟩
theorem rd_start (w : World) (v : Value) (x y : Int) (b : Bool) : RD w v x y b ((w.alloc (.cells #[v] 26)).alloc (.cells #[.int .i64 x, .int .i64 y, .bool b] 38)) := by
  have h1 := Rg.new w v
  have hb := below_alloc1 w (.cells #[v] 26)
  have hz : (w.alloc (.cells #[v] 26)).heap.size = w.heap.size + 1 := by simp
  generalize w.alloc (.cells #[v] 26) = W at h1 hb hz ⊢
  have h2 := At3.new 38 W x y b
  rw [hz] at h2
  exact ⟨hb.alloc hb.size _, h1.on (below_alloc1 W _), h2⟩
section
variable {w W W' : World} {v : Value} {x y : Int} {b : Bool}
theorem RC.on (h : RC w v x y W) (hb : Below W.heap.size W W') : RC w v x y W' := ⟨h.1.trans (hb.mono h.1.size), h.2.1.on hb, h.2.2.on hb⟩
theorem RD.on (h : RD w v x y b W) (hb : Below W.heap.size W W') : RD w v x y b W' := ⟨h.1.trans (hb.mono h.1.size), h.2.1.on hb, h.2.2.on hb⟩
theorem RC.drew (h : RC w v x y W) : RC w v x y W.drew := ⟨h.1.drew, h.2⟩
theorem RD.drew (h : RD w v x y b W) : RD w v x y b W.drew := ⟨h.1.drew, h.2⟩
end
theorem RowM.take {w : World} {B : Nat} {A : Option Addr} {L : List Dm} (h : RowM w B A L) (k : Nat) : RowM w B A (L.take k) := by
  obtain ⟨b, off, h1, h2⟩ := h
  refine ⟨b, off, fun h0 => h1 (by rw [List.length_take] at h0; omega), fun j d hd => h2 j d ?_⟩
  rw [List.getElem?_take] at hd
  split at hd
  · exact hd
  · cases hd
theorem Fits.take {L : List Dm} (h : Fits L) (k : Nat) : Fits (L.take k) := fun d hd => h d (List.mem_of_mem_take hd)

end Go.Proofs.Ytkjoonmnedofiaa.Til

/- The model's list of the tilings that go on with a head. -/
namespace Go.Proofs.Ytkjoonmnedofiaa.Lis
set_option linter.unusedVariables false
set_option linter.unusedSimpArgs false
open Go.RowKit Go.Proofs.Ytkjoonmnedofiaa.Base Go.Proofs.Ytkjoonmnedofiaa.Pure Go.Proofs.Ytkjoonmnedofiaa.Cell Go.Proofs.Ytkjoonmnedofiaa.Cels Go.Proofs.Ytkjoonmnedofiaa.Dom Go.Proofs.Ytkjoonmnedofiaa.Dms Go.Proofs.Ytkjoonmnedofiaa.Til Go.Proofs.Ytkjoonmnedofiaa.Grd Go.Proofs.Ytkjoonmnedofiaa.Dss Go.Joins
open Go.Proofs.Ytkjoonmnedofiaa.Cnt (gR tiles gR_in gR_out)
open Go.Proofs.Ytkjoonmnedofiaa.Reg hiding Yes add_none RC rc_start

/-- an append of some cells or of none: the row lies where it lay, or in the next new block. -/
theorem append_any {P : Program} (w : World) {ops : Array Oper} {rest : List Oper} {o : Oper} {a : Act} {Q : Exit → Act → World → Prop} (hgd : o.guard = none) (s x : Operand) (t : TypeId)
    (ho : o.op = .call { callee := .builtin .append, args := #[s, x], argTypes := #[t, t] })
    (base : Nat) (e : TypeId) (i : TypeInfo) (z : Value) (size bytes : Nat) (ht : P.underlying t = some (.slice e)) (hi : P.info? e = some i) (hz : i.zero = some z)
    (hsize : i.size = size) (hby : i.bytes = bytes) (hzs : z.cells.size = size) (hsz : 0 < size)
    (g n cap : Nat) (xs : List Value) (hs : a.eval s = .slice (some ⟨g, 0, none⟩) n cap) (hown : w.ownsRow base e size (.slice (some ⟨g, 0, none⟩) n cap) n xs)
    (ad : Addr) (m c : Nat) (news : List Value) (hx : a.eval x = .slice (some ad) m c) (hl : news.length = m * size) (hnews : ∀ j u, news[j]? = some u → w.cell? (ad.add j) = some u) (h1 : ∀ u ∈ news, u.oneCell' = true)
    (h63 : n + m ≤ maxLen) (hbytes : (n + m) * bytes ≤ 140737488355328) (hbase : base ≤ w.heap.size)
    (h : ∀ g' cap' w', w'.ownsRow base e size (.slice (some ⟨g', 0, none⟩) (n + m) cap') (n + m) (xs ++ news) → w.grownBy w' (some g) → (g' = g ∨ g' = w.heap.size) → g' < w'.heap.size → wpList P ops Q rest (a.put o.dst (.slice (some ⟨g', 0, none⟩) (n + m) cap')) w') : wpList P ops Q (o :: rest) a w := by
  rcases Nat.eq_zero_or_pos m with h0 | h0
  · refine wpList_append_fits w hgd s x t ho base e i size ht hi hsize g n cap xs hs hown ad m c news hx hl hnews h1 (by
      rcases hown.2 with ⟨q, _⟩ | ⟨g', cap', cur, q, _, _, h1, _⟩
      · cases q
      · injection q with _ _ qc
        subst qc; omega) ?_
    intro w' k1 k2
    exact h g cap w' k1 k2 (.inl rfl) (k1.lt g rfl).2
  · refine wpList_append_lies w hgd s x t ho base e i z size bytes ht hi hz hsize hby hzs hsz _ n xs hs hown ad m c news hx hl hnews h1 h0 h63 hbytes hbase w.heap.size rfl ?_
    intro g' cap' w' k1 k2 k3 k4
    refine h g' cap' w' k1 k2 ?_ k4
    rcases k3 with k3 | k3
    · injection k3 with k3; exact .inl k3.symm
    · exact .inr k3

/-- the same at a step of a region that draws its order. -/
theorem step_append_any {P : Program} (w : World) {ops : Array Oper} {o : Oper} {a : Act} {K : Act → World → Prop} {Q : Exit → Act → World → Prop} {E : Prop} (hgd : o.guard = none) (s x : Operand) (t : TypeId)
    (ho : o.op = .call { callee := .builtin .append, args := #[s, x], argTypes := #[t, t] })
    (base : Nat) (e : TypeId) (i : TypeInfo) (z : Value) (size bytes : Nat) (ht : P.underlying t = some (.slice e)) (hi : P.info? e = some i) (hz : i.zero = some z)
    (hsize : i.size = size) (hby : i.bytes = bytes) (hzs : z.cells.size = size) (hsz : 0 < size)
    (g n cap : Nat) (xs : List Value) (hs : a.eval s = .slice (some ⟨g, 0, none⟩) n cap) (hown : w.ownsRow base e size (.slice (some ⟨g, 0, none⟩) n cap) n xs)
    (ad : Addr) (m c : Nat) (news : List Value) (hx : a.eval x = .slice (some ad) m c) (hl : news.length = m * size) (hnews : ∀ j u, news[j]? = some u → w.cell? (ad.add j) = some u) (h1 : ∀ u ∈ news, u.oneCell' = true)
    (h63 : n + m ≤ maxLen) (hbytes : (n + m) * bytes ≤ 140737488355328) (hbase : base ≤ w.heap.size)
    (h : ∀ g' cap' w', w'.ownsRow base e size (.slice (some ⟨g', 0, none⟩) (n + m) cap') (n + m) (xs ++ news) → w.grownBy w' (some g) → (g' = g ∨ g' = w.heap.size) → g' < w'.heap.size → K (a.put o.dst (.slice (some ⟨g', 0, none⟩) (n + m) cap')) w') :
    if Region.wanted o (yielded ops a.tmps) = true then Oper.wp P o a w K Q else E := by
  have hw : Region.wanted o (yielded ops a.tmps) = true := by simp [Region.wanted, hgd]
  rw [if_pos hw]
  rcases Nat.eq_zero_or_pos m with h0 | h0
  · obtain ⟨w', hr, k1, k2⟩ := run_append_fits (P := P) w base t o.type e i size ht hi hsize g n cap xs hown ad m c news hl hnews h1 (by
      rcases hown.2 with ⟨q, _⟩ | ⟨g', cap', cur, q, _, _, h1, _⟩
      · cases q
      · injection q with _ _ qc
        subst qc; omega)
    unfold Oper.wp execOp
    simp only [ho, resolve, invoke, builtin, Sem.run_bind, Sem.run_pure, Result.andThen_ok, List.map_toArray, List.map_cons, List.map_nil, hs, hx, hr]
    exact h g cap w' k1 k2 (.inl rfl) (k1.lt g rfl).2
  · refine wp_append_lies w s x t ho base e i z size bytes ht hi hz hsize hby hzs hsz _ n xs hs hown ad m c news hx hl hnews h1 h0 h63 hbytes hbase w.heap.size rfl ?_
    intro g' cap' w' k1 k2 k3 k4
    refine h g' cap' w' k1 k2 ?_ k4
    rcases k3 with k3 | k3
    · injection k3 with k3; exact .inl k3.symm
    · exact .inr k3

/-- a slice of slices as an answer, in memory of the call's own. -/
def SSPost (L : List (List Dm)) (h : Nat) (w : World) (e : Ending) (w' : World) : Prop :=
  ∃ g cap, e = .returned (.slice (some ⟨g, 0, none⟩) L.length cap) ∧ SSIn w' w.heap.size w'.heap.size (some ⟨g, 0, none⟩) L.length cap h L ∧ Below w.heap.size w w'
/-- the state: the region's box, the cells left, the lists so far. -/
structure Lst (w : World) (va : Value) (bC offC : Nat) (C : List (Int × Int)) (h : Nat) (L : List (List Dm)) (go co : Nat) (W : World) : Prop where
  bel : Below w.heap.size w W
  box : Rg W w.heap.size va
  cs : RdC W bC offC C
  ne : 0 < C.length → w.heap.size + 2 ≤ bC ∧ go ≠ bC
  out : ∃ S, W.ownsRow (w.heap.size + 1) 27 1 (.slice (some ⟨go, 0, none⟩) L.length co) L.length (outs h S) ∧ Ins W (w.heap.size + 1) W.heap.size h L S
section
variable {w : World} {va : Value} {bC offC : Nat} {C : List (Int × Int)} {h : Nat} {L : List (List Dm)} {go co : Nat} {W W' : World}
theorem Lst.on (k : Lst w va bC offC C h L go co W) (hb : Below W.heap.size W W') : Lst w va bC offC C h L go co W' := by
  obtain ⟨S, s1, s2⟩ := k.out
  exact ⟨k.bel.trans (hb.mono k.bel.size), k.box.on hb, k.cs.on hb, k.ne, S, Reg.own_below s1 hb (Nat.le_refl _), (s2.on hb).wide (Nat.le_refl _) hb.size⟩
theorem Lst.drew (k : Lst w va bC offC C h L go co W) : Lst w va bC offC C h L go co W.drew := by
  obtain ⟨S, s1, s2⟩ := k.out
  exact ⟨k.bel.drew, k.box, k.cs, k.ne, S, s1, s2⟩
theorem Ins.grown {lo hi lo' m c g : Nat} {xs : List Value} {S : List (Option Addr × Nat)} (k : Ins W lo hi h L S) (ho : W.ownsRow lo' 27 1 (.slice (some ⟨g, 0, none⟩) m c) m xs) (hg : W.grownBy W' (some g)) : Ins W' lo hi h L S := by
  refine ⟨k.1, fun i s x hs hx => ?_, k.2.2⟩
  have r := k.2.1 i s x hs hx
  refine ⟨r.1.kept hg (.inr (fun e => ?_)), r.2⟩
  rw [ownBlock_slice] at e
  exact dif_types ho r.1 (by decide) g rfl e
/-- lists come behind the lists. -/
theorem Lst.app {S' : List (Option Addr × Nat)} {L' : List (List Dm)} {go' co' m' : Nat} (k : Lst w va bC offC C h L go co W) (S : List (Option Addr × Nat)) (hS : W.ownsRow (w.heap.size + 1) 27 1 (.slice (some ⟨go, 0, none⟩) L.length co) L.length (outs h S))
    (hI : Ins W (w.heap.size + 1) W.heap.size h (L ++ L') (S ++ S')) (hm : m' = (L ++ L').length) (hg : W.grownBy W' (some go)) (hat : go' = go ∨ go' = W.heap.size)
    (hown : W'.ownsRow (w.heap.size + 1) 27 1 (.slice (some ⟨go', 0, none⟩) m' co') m' (outs h S ++ outs h S')) : Lst w va bC offC C h (L ++ L') go' co' W' := by
  subst hm
  have hgo := hS.lt go rfl
  refine ⟨k.bel.grown hg k.bel.size (fun j hj => by injection hj; omega), (hg.block _ k.box.lt (by intro e; injection e with e; omega)).trans k.box, k.cs.grown hg (fun h0 => (k.ne h0).2), fun h0 => ⟨(k.ne h0).1, ?_⟩, S ++ S', ?_, (Ins.grown hI hS hg).wide (Nat.le_refl _) hg.size⟩
  · have a := k.ne h0
    have b := k.cs.1 h0
    rcases hat with e | e <;> omega
  · have e : outs h (S ++ S') = outs h S ++ outs h S' := by unfold outs; rw [List.map_append]
    rw [e]; exact hown
theorem Lst.post (k : Lst w va bC offC C h L go co W) : SSPost L h w (.returned (.slice (some ⟨go, 0, none⟩) L.length co)) W := by
  obtain ⟨S, s1, s2⟩ := k.out
  exact ⟨go, co, rfl, ⟨S, ⟨Reg.own_base s1 (by omega), fun g hg => (s1.lt g hg).2⟩, s2.wide (by omega) (Nat.le_refl _)⟩, k.bel⟩
end
/-- the first cell's dominoes. -/
theorem can_is {xs : List Int} (ho : okR xs) {M : List Dm} {c : Nat} (hc : c < 64) (b : Bool) : canB xs M c b = (okM (dmN c b) && (hasB xs (sx (dmN c b).1 b) (sy (dmN c b).2.1 b) && !anyM M (sx (dmN c b).1 b) (sy (dmN c b).2.1 b))) := by
  rw [Bool.eq_iff_iff]
  constructor
  · intro h
    obtain ⟨h1, h2, h3⟩ := can_lt h
    obtain ⟨o1, o2, o3⟩ := oth_ok h1 h2
    rw [gM_iff] at h3
    rw [o1, o2, o3, has_place ho h3.1, h3.2]; rfl
  · intro h
    rw [Bool.and_eq_true, Bool.and_eq_true] at h
    obtain ⟨h1, h2, h3⟩ := h
    have hk : (b = false → c % 8 ≠ 7) ∧ oth c b < 64 := by
      unfold okM domB dmN at h1
      rw [Bool.and_eq_true, okB_iff, okB_iff] at h1
      unfold Ok at h1
      cases b
      · simp only [sx, sy, Bool.false_eq_true, if_false] at h1
        unfold wrap64 at h1
        unfold oth
        simp only [Bool.false_eq_true, if_false]
        exact ⟨fun _ => by omega, by omega⟩
      · simp only [sx, sy, if_true] at h1
        unfold wrap64 at h1
        unfold oth
        simp only [if_true]
        first
          | omega
          | exact ⟨fun h => (by cases h), by omega⟩
          | exact ⟨trivial, by omega⟩
          | exact ⟨fun _ => by omega, by omega⟩
    obtain ⟨o1, o2, o3⟩ := oth_ok hk.2 hk.1
    rw [o2, o3] at h2 h3
    unfold canB
    have g := place_has hk.2 h2
    have : gM xs M (oth c b) = true := gM_iff.2 ⟨g, by simpa using h3⟩
    rw [this, Bool.and_true]
    cases b
    · simpa using hk.1 rfl
    · rfl
/-- the lists of the first dominoes. -/
def pre (xs : List Int) (M : List Dm) (c t : Nat) : List (List Dm) := if t = 0 then [] else if t = 1 then one xs M c false else one xs M c false ++ one xs M c true
theorem pre_step {xs : List Int} {M : List Dm} {c t : Nat} (ht : t < 2) : pre xs M c (t + 1) = pre xs M c t ++ one xs M c (decide (t = 1)) := by
  match t, ht with
  | 0, _ => simp [pre]
  | 1, _ => simp [pre]
theorem pre_full {xs : List Int} {M : List Dm} {c t : Nat} (ht : t ≤ 2) : ∃ Y, pre xs M c 2 = pre xs M c t ++ Y := by
  match t, ht with
  | 0, _ => exact ⟨_, by simp [pre]; rfl⟩
  | 1, _ => exact ⟨one xs M c true, by simp [pre]⟩
  | 2, _ => exact ⟨[], by simp⟩
theorem pre_stop {xs : List Int} {M : List Dm} {c t most : Nat} {L : List (List Dm)} (ht : t ≤ 2) (hL : L = (pre xs M c t).take most) (h : t = 2 ∨ most ≤ L.length) : L = (pre xs M c 2).take most := by
  rcases h with h | h
  · rw [hL, h]
  · obtain ⟨Y, e⟩ := pre_full (xs := xs) (M := M) (c := c) ht
    rw [e, take_two, hL]
    have hl : most ≤ (pre xs M c t).length := by rw [hL, List.length_take] at h; omega
    rw [show most - (pre xs M c t).length = 0 by omega, List.take_zero, List.append_nil]
theorem pre_more {xs : List Int} {M : List Dm} {c t most : Nat} {L : List (List Dm)} (ht : t < 2) (hL : L = (pre xs M c t).take most) (hlt : L.length < most) : (pre xs M c (t + 1)).take most = L ++ (one xs M c (decide (t = 1))).take (most - L.length) := by
  rw [pre_step ht, take_two, ← hL]
  congr 2
  rw [hL, List.length_take] at hlt ⊢
  omega
theorem cont_half {xs : List Int} (ho : okR xs) {M : List Dm} {k : Nat} (hb : Beg xs k M) (hk : k ≤ 64) (h0 : ∀ i, i < k → gM xs M i = false) : ∀ L ∈ cont xs M, L.length = (cellsR xs).length / 2 := by
  intro L hL
  unfold cont at hL
  obtain ⟨L', hL', rfl⟩ := List.mem_map.1 hL
  rw [LsG_from h0 hk] at hL'
  exact til_half (Ls_til ho (64 - k) k M (by omega) hb h0 L' hL')
end Go.Proofs.Ytkjoonmnedofiaa.Lis
