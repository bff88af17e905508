/- TilJ, HgR, TfP, JnB in one text. -/
import Derived.Test.YtmajllgfmclcoaaGreatDoorMd19
import Derived.Test.YtmajllgfmclcoaaGreatDoorMd09
import Derived.Test.YtmajllgfmclcoaaGreatDoorMd18
import Derived.Test.YtmajllgfmclcoaaGreatDoorMd08
set_option linter.unusedVariables false
set_option linter.unusedSimpArgs false
namespace Go.Proofs.YtmajllgfmclcoaaGreatDoor.Til
open Go.RowKit Go.Proofs.YtmajllgfmclcoaaGreatDoor.Pure Go.Proofs.YtmajllgfmclcoaaGreatDoor.Cell Dom Dms Go.Joins
open Reg hiding add_none RC rc_start
theorem iCanFollow (w : World) (A : Option Addr) (n cap B : Nat) (xs : List Int) (hx : xs.length = n) (hn : (n : Int) ≤ 9223372036854775807) (h : RowB w B A xs) (hB : B ≤ w.heap.size)
  (A' : Option Addr) (n' cap' B' : Nat) (L : List Dm) (hL : L.length = n') (hn' : (n' : Int) ≤ 9223372036854775807) (hf : Fits L) (h' : RowM w B' A' L) (hB' : B' ≤ w.heap.size) (x y : Int) (b : Bool) (hx1 : Sm x) (hy1 : Sm y) :
  Calls Tryz.prog 136 #[.agg #[.slice A n cap], .slice A' n' cap', .agg #[.int .i64 x, .int .i64 y, .bool b]] w (Bol (stepB xs L (x, y, b)) w) := by
 rcases Nat.eq_zero_or_pos n' with h0 | h0
 ·subst h0
  obtain rfl : L = [] := List.eq_nil_of_length_eq_zero hL
  exact iCanFollow0 w A n cap B xs hx hn h hB A' cap' x y b hx1 hy1
 ·exact iCanFollow1 w A n cap B xs hx hn h hB A' n' cap' B' L hL hn' hf h' hB' h0 x y b hx1 hy1
def Go1 (xs : List Int) (L : List Dm) (k : Nat) : Prop := ∀ j, j < k → stpAt xs L j = true
theorem Go1.zero (xs : List Int) (L : List Dm) : Go1 xs L 0 := fun j h => by omega
theorem Go1.succ {xs : List Int} {L : List Dm} {k : Nat} (h : Go1 xs L k) (hs : stpAt xs L k = true) : Go1 xs L (k + 1) := by
 intro j hj
 by_cases e : j = k
 ·subst e; exact hs
 ·exact h j (by omega)
def R1 (w : World) (v : Value) (W : World) : Prop := Below w.heap.size w W ∧ Rg W w.heap.size v
theorem r1_start (w : World) (v : Value) : R1 w v (w.alloc (.cells #[v] 26)) := ⟨below_alloc1 w _, Rg.new w v⟩
theorem R1.on {w W W' : World} {v : Value} (h : R1 w v W) (hb : Below W.heap.size W W') : R1 w v W' := ⟨h.1.trans (hb.mono h.1.size), h.2.on hb⟩
theorem R1.drew {w W : World} {v : Value} (h : R1 w v W) : R1 w v W.drew := ⟨h.1.drew, h.2⟩
set_option maxRecDepth 100000 in
set_option maxHeartbeats 2000000 in
theorem iIsPartial (w : World) (A : Option Addr) (n cap B : Nat) (xs : List Int) (hx : xs.length = n) (hn : (n : Int) ≤ 9223372036854775807) (h : RowB w B A xs) (hB : B ≤ w.heap.size)
  (A' : Option Addr) (n' cap' B' : Nat) (L : List Dm) (hL : L.length = n') (hn' : (n' : Int) ≤ 9223372036854775807) (hf : Fits L) (h' : RowM w B' A' L) (hB' : B' ≤ w.heap.size) (hcap : n' ≤ cap') :
  Calls Tryz.prog 115 #[.agg #[.slice A n cap], .slice A' n' cap'] w (Bol (partB xs L) w) := by
 obtain ⟨b0, off, hA, hR⟩ := h'.at
 have HS := Lh (r1_start w (.slice A n cap))
 have HO := Lh (fun W (hb : Below w.heap.size w W) => iRegionOk W A n cap B xs hx hn (h.below hb hB) (by have := hb.size; omega))
 have HF := Lh (fun W (hb : Below w.heap.size w W) j (hj : j < n') (hjL : j < L.length) => iCanFollow W A n cap B xs hx hn (h.below hb hB) (by have := hb.size; omega) A' j cap' B' (L.take j) (by rw [List.length_take]; omega) (by omega) (Fits.take hf j) (RowM.take (h'.below hb hB') j) (by have := hb.size; omega) L[j].1 L[j].2.1 L[j].2.2 (hf _ (List.getElem_mem hjL)).1 (hf _ (List.getElem_mem hjL)).2)
 have HW := Lh (fun W (hb : Below w.heap.size w W) (j : Nat) (hj : j < L.length) (h0 : 0 < L.length) => (show _ ∧ _ ∧ _ from ⟨(hb.cell (p := ⟨b0, off + j * 3, none⟩) (by have := (hA h0).2; show b0 < _; omega)).trans (hR j hj).1, (hb.cell (p := ⟨b0, off + j * 3 + 1, none⟩) (by have := (hA h0).2; show b0 < _; omega)).trans (hR j hj).2.1, (hb.cell (p := ⟨b0, off + j * 3 + 2, none⟩) (by have := (hA h0).2; show b0 < _; omega)).trans (hR j hj).2.2⟩))
 have HA := Lh (fun h0 => (hA h0).1)
 have HL := Lh hL
 have HY := Lh (fun (ho : okRB xs = true) (hg : Go1 xs L L.length) => part_yes ho hg)
 have HN := Lh (fun k (hk : k < L.length) hs => part_no (xs := xs) (L := L) (k := k) hk hs)
 have HX := Lh (part_not (xs := xs) (L := L))
 generalize partB xs L = r at HY HN HX ⊢
 clear hx h hB hL hf h' hB' hA hR
 go_enter Tryz.func115, Tryz.ntmps115
 go_wp2_with fail
 have T0 := HS.out
 refine (HO.out _ T0.1).mono ?_
 rintro e w1 ⟨rfl, hb1⟩
 have T1 := T0.on hb1
 clear T0 HS hb1 HO
 cases ho : okRB xs with
 | false =>
  have HE := Lh (HX.out ho)
  clear HX HY HN ho
  go_wp2
  go_ret
  exact mkBol (by rw [HE.out]) T1.1
 | true =>
  have HY := Lh (fun hg => HY.out ho hg)
  clear ho HX
  go_wp2_with fail
  go_loopw [12] (fun i wr => ∃ j : Nat, j ≤ n' ∧ i = .int .i64 j ∧ R1 w (.slice A n cap) wr ∧ Hid (Go1 xs L j)) (fun i _ => n' - (intOf i).toNat)
  case atStart => exact ⟨0, Nat.zero_le _, rfl, T1, Lh (Go1.zero _ _)⟩
  case round =>
   clear T1
   obtain ⟨j, hj, rfl, hT, hM⟩ := hrel
   by_cases hlt : j < n'
   ·have hjL : j < L.length := by have := HL.out; omega
    obtain rfl := HA.out (by omega)
    obtain ⟨c0, c1, c2⟩ := HW.out _ hT.1 j hjL (by omega)
    have HD := Lh (stpAt_of (xs := xs) hjL)
    have HFj := Lh (fun W hb => HF.out W hb j hlt hjL)
    generalize L[j] = d at c0 c1 c2 HD HFj
    obtain ⟨u, v, b⟩ := d
    simp only at c0 c1 c2 HFj
    generalize stepB xs (L.take j) (u, v, b) = t at HFj HD
    have HNj := Lh (fun hs => HN.out j hjL hs)
    have hjc : (j : Int) ≤ (cap' : Int) := by omega
    have HT := Lh hT
    clear hT
    go_upto_region 6 with fail
    have k1 := At3.new 63 wr u v b
    have T1 := HT.out.on (below_alloc1 wr (.cells #[.int .i64 u, .int .i64 v, .bool b] 63))
    generalize wr.heap.size = p at k1 ⊢
    generalize wr.alloc (.cells #[.int .i64 u, .int .i64 v, .bool b] 63) = W at k1 T1 ⊢
    clear HT c0 c1 c2
    refine wp_region_noPanic ?_
    refine wp_region_held_drew (S := (fun w' => w'.cell? ⟨p, 0, none⟩ = some (.int .i64 u) ∧ w'.cell? ⟨p, 1, none⟩ = some (.int .i64 v) ∧ w'.cell? ⟨p, 2, none⟩ = some (.bool b) ∧ w'.cell? ⟨w.heap.size, 0, none⟩ = some (.slice A n cap))) (by kernel_rfl) (⟨k1.c0, k1.c1, k1.c2, T1.drew.2.c0⟩) (fun hHeld => ?_)
    refine tk 0 ?_; try simp only [Act.put, zk]
    refine tk 1 ?_; try simp only [Act.put, zk]
    refine tk 2 ?_; try simp only [Act.put, zk]
    refine tk 3 ?_; try simp only [Act.put, zk]
    refine tk 4 ?_; try simp only [Act.put, zk]
    refine tr 5 fun K hK => ?_
    go_simp
    refine (HFj.out _ T1.drew.1).mono ?_
    rintro e wx ⟨rfl, hb1⟩
    have T2 := T1.drew.on hb1
    have k2 := (show At3 63 W.drew p u v b from k1).on hb1
    clear T1 k1 hb1 HFj
    go_wp2_with fail
    refine hK.out _ _ (⟨k2.c0, k2.c1, k2.c2, T2.2.c0⟩) (fun hHeld => ?_)
    clear hK K
    try simp only [Act.put, zk]
    refine tk 6 ?_; try simp only [Act.put, zk]
    refine wpAnyH_done (by kernel_rfl) (NoPanic.normal ?_) _
    clear hHeld k2
    cases t with
    | false =>
     have HE := Lh (HNj.out HD.out)
     go_wp2
     go_ret
     exact mkBol (by rw [HE.out]) T2.1
    | true =>
     have HM := Lh (hM.out.succ HD.out)
     clear hM HNj HD
     go_wp2
     go_roundw
     case rel => exact ⟨j + 1, by omega, by go_num, T2, HM⟩
     case measure => (simp [intOf] <;> omega)
   ·obtain rfl : j = n' := by omega
    have HE := Lh (HY.out (by rw [HL.out]; exact hM.out))
    go_wp2
    go_ret
    exact mkBol (by rw [HE.out]) hT.1
end Go.Proofs.YtmajllgfmclcoaaGreatDoor.Til
namespace Go.Proofs.YtmajllgfmclcoaaGreatDoor.Hgt
open Go.RowKit Go.Proofs.YtmajllgfmclcoaaGreatDoor.Pure Dms Til Go.Joins
open Reg (ints)
open Flo (simB)
def hgtR (xs : List Int) (L : List Dm) (h : List Int) : Prop := (simB xs = true ∧ Row9 xs L h) ∨ (¬ (simB xs = true ∧ tilB xs L = true) ∧ h = [])
theorem hgtR_uniq {xs : List Int} {L : List Dm} {h h' : List Int} (k : hgtR xs L h) (k' : hgtR xs L h') : h = h' := by
 rcases k with ⟨a, b⟩ | ⟨a, b⟩ <;> rcases k' with ⟨c, d⟩ | ⟨c, d⟩
 ·exact row_uniq b d
 ·exact absurd ⟨a, b.til⟩ c
 ·exact absurd ⟨c, d.til⟩ a
 ·rw [b, d]
theorem hgtR_len {xs : List Int} {L : List Dm} {h : List Int} (k : hgtR xs L h) : h.length ≤ 81 := by
 rcases k with ⟨_, b⟩ | ⟨_, rfl⟩
 ·rw [b.len]; omega
 ·simp
def HgtP (xs : List Int) (L : List Dm) (w : World) (e : Ending) (w' : World) : Prop :=
 ∃ (h : List Int) (A : Option Addr) (n cap : Nat), hgtR xs L h ∧ h.length = n ∧ e = .returned (.slice A n cap) ∧ w'.ownsRow w.heap.size 3 1 (.slice A n cap) n (ints h) ∧ Below w.heap.size w w'
theorem first_lc {xs : List Int} (ok : okR xs) {x y : Int} {t : List (Int × Int)} (h : cellsR xs = (x, y) :: t) : (0 ≤ x ∧ x ≤ 7 ∧ 0 ≤ y ∧ y ≤ 7) ∧ ((lc xs : Nat) : Int) = y * 9 + x := by
 have hb : hasB xs x y = true := mem_cells.1 (h ▸ List.mem_cons_self ..)
 obtain ⟨_, x0, x7, y0, y7, _⟩ := hasB_iff.1 hb
 have hl : ∀ x' y', hasB xs x' y' = true → y * 8 + x ≤ y' * 8 + x' := fun x' y' hc => by
  have hm := mem_cells.2 hc
  have hi := cells_inc xs
  rw [h] at hm hi
  rcases List.mem_cons.1 hm with e | e
  ·injection e with e1 e2; omega
  ·have := (List.pairwise_cons.1 hi).1 _ e
   simp only at this
   omega
 refine ⟨⟨x0, x7, y0, y7⟩, ?_⟩
 obtain ⟨a, ha⟩ : ∃ a : Nat, (a : Int) = x := ⟨x.toNat, by omega⟩
 obtain ⟨b, hb'⟩ : ∃ b : Nat, (b : Int) = y := ⟨y.toNat, by omega⟩
 have e : lc xs = 9 * b + a := by
  refine lc_of (by omega) (crn_any.2 ⟨0, by omega, ?_⟩) (fun v hv => ?_)
  ·rw [show (((9 * b + a) % 9 : Nat) : Int) - ((0 % 2 : Nat) : Int) = x by omega, show (((9 * b + a) / 9 : Nat) : Int) - ((0 / 2 : Nat) : Int) = y by omega]
   exact hb
  ·cases q : crnB xs v with
   | false => rfl
   | true =>
    obtain ⟨i, hi, hc⟩ := crn_any.1 q
    obtain ⟨_, c0, c7, d0, d7, _⟩ := hasB_iff.1 hc
    have := hl _ _ hc
    omega
 rw [e]; omega
end Go.Proofs.YtmajllgfmclcoaaGreatDoor.Hgt
namespace Go.Proofs.YtmajllgfmclcoaaGreatDoor.Hgt
open Go.RowKit Go.Proofs.YtmajllgfmclcoaaGreatDoor.Pure Go.Proofs.YtmajllgfmclcoaaGreatDoor.Cell Dom Dms Til Flp Go.Joins
open Flo (simB)
def tellG (xs hs : List Int) (e : Dm) : Prop := hasB xs e.1 e.2.1 = true ∧ hasB xs (sx e.1 e.2.2) (sy e.2.1 e.2.2) = true ∧ gap hs e
theorem row_gap {xs : List Int} {M : List Dm} {hs : List Int} (r : Row9 xs M hs) (e : Dm) (ho : okM e = true) : e ∈ M ↔ tellG xs hs e := by
 have hp := til_part r.til
 unfold tellG
 have main : hasB xs e.1 e.2.1 = true → hasB xs (sx e.1 e.2.2) (sy e.2.1 e.2.2) = true → (gap hs e ↔ e ∈ M) := fun h1 h2 => by
  obtain ⟨x, y, b⟩ := e
  cases b with
  | true =>
   have o := ok_dn ho
   have e2 : sy y true = y + 1 := by unfold sy; rw [if_pos rfl]; exact wrap_in (by omega) (by omega)
   have e1 : sx x true = x := by unfold sx; rw [if_pos rfl]
   simp only at h1 h2
   rw [e1, e2] at h2
   obtain ⟨u, v, a1, a2, b1, b2, key⟩ := gap_dn r h1 h2
   rw [← key]
   unfold gap gapA gapB
   simp only [if_pos]
   constructor
   ·rintro ⟨u', v', c1, c2, c3⟩
    rw [a1] at c1
    rw [a2] at c2
    injection c1 with c1
    injection c2 with c2
    subst c1
    subst c2
    rwa [wrap_small (by omega), wrap_small (by omega)] at c3
   ·intro h
    refine ⟨u, v, a1, a2, ?_⟩
    rwa [wrap_small (by omega), wrap_small (by omega)]
  | false =>
   have o := ok_rt ho
   have e1 : sx x false = x + 1 := by unfold sx; rw [if_neg (by simp)]; exact wrap_in (by omega) (by omega)
   have e2 : sy y false = y := by unfold sy; rw [if_neg (by simp)]
   simp only at h1 h2
   rw [e1, e2] at h2
   obtain ⟨u, v, a1, a2, b1, b2, key⟩ := gap_rt r h1 h2
   rw [← key]
   unfold gap gapA gapB
   simp only [Bool.false_eq_true, if_false]
   rw [show 9 * (y.toNat + 1) + (x + 1).toNat = 9 * (y + 1).toNat + (x + 1).toNat by omega]
   constructor
   ·rintro ⟨u', v', c1, c2, c3⟩
    rw [a1] at c1
    rw [a2] at c2
    injection c1 with c1
    injection c2 with c2
    subst c1
    subst c2
    rwa [wrap_small (by omega), wrap_small (by omega)] at c3
   ·intro h
    refine ⟨u, v, a1, a2, ?_⟩
    rwa [wrap_small (by omega), wrap_small (by omega)]
 constructor
 ·intro hm
  have h1 : hasB xs e.1 e.2.1 = true := part_in hp hm (cov_of ho (.inl ⟨rfl, rfl⟩))
  have h2 : hasB xs (sx e.1 e.2.2) (sy e.2.1 e.2.2) = true := part_in hp hm (cov_of ho (.inr ⟨rfl, rfl⟩))
  exact ⟨h1, h2, (main h1 h2).2 hm⟩
 ·rintro ⟨h1, h2, h3⟩
  exact (main h1 h2).1 h3
def tfR (xs hs : List Int) (M : List Dm) (ok : Bool) : Prop :=
 (ok = true ∧ simB xs = true ∧ Row9 xs M hs) ∨ (ok = false ∧ M = [] ∧ ¬ (simB xs = true ∧ ∃ M', Row9 xs M' hs))
theorem tfR_uniq {xs hs : List Int} {M M' : List Dm} {ok ok' : Bool} (h : tfR xs hs M ok) (h' : tfR xs hs M' ok') : M = M' ∧ ok = ok' := by
 rcases h with ⟨rfl, a, b⟩ | ⟨rfl, rfl, c⟩ <;> rcases h' with ⟨rfl, a', b'⟩ | ⟨rfl, rfl, c'⟩
 ·refine ⟨?_, rfl⟩
  have e1 := tf_of b (C := M) (fun e ho => row_gap b e ho)
  have e2 := tf_of b' (C := M) (fun e ho => row_gap b e ho)
  rw [← e1]; exact e2
 ·exact absurd ⟨a, M, b⟩ c'
 ·exact absurd ⟨a', M', b'⟩ c
 ·exact ⟨rfl, rfl⟩
theorem tf_yes {xs hs : List Int} {M : List Dm} (h81 : hs.length = 81) {h : List Int} (hr : hgtR xs M h) (e : h = hs) : tfR xs hs M true := by
 subst e
 rcases hr with ⟨a, b⟩ | ⟨_, rfl⟩
 ·exact .inl ⟨rfl, a, b⟩
 ·simp at h81
theorem tf_no {xs hs : List Int} {C : List Dm} (hC : ∀ e, okM e = true → (e ∈ C ↔ tellG xs hs e)) {h : List Int} (hr : hgtR xs (sortM C) h) (e : h ≠ hs) : tfR xs hs [] false := by
 refine .inr ⟨rfl, rfl, ?_⟩
 rintro ⟨a, M', r⟩
 have e1 := tf_of r hC
 rw [e1] at hr
 rcases hr with ⟨_, b⟩ | ⟨c, _⟩
 ·exact e (row_uniq b r)
 ·exact c ⟨a, r.til⟩
theorem tf_short {xs hs : List Int} (h : hs.length ≠ 81) : tfR xs hs [] false := .inr ⟨rfl, rfl, fun ⟨_, M', r⟩ => h r.len⟩
def upG (xs hs : List Int) (x y qx qy : Int) : Prop := hasB xs (sdX x y qx qy) (sdY x y qx qy) = true ∧ hasB xs (loE x qx) (loE y qy) = true ∧ ∃ u v : Int, hs[pl9 (x, y)]? = some u ∧ hs[pl9 (qx, qy)]? = some v ∧ wrap64 (v - u) = 3
def walkG (xs hs : List Int) (v k : Nat) (e : Dm) : Prop :=
 ∃ u c, (u < v ∨ (u = v ∧ ∃ i, i < k ∧ (endsP ((u % 9 : Nat) : Int) ((u / 9 : Nat) : Int))[i]? = some c)) ∧ c ∈ endsP ((u % 9 : Nat) : Int) ((u / 9 : Nat) : Int) ∧ upG xs hs ((u % 9 : Nat) : Int) ((u / 9 : Nat) : Int) c.1 c.2 ∧ e = sdM ((u % 9 : Nat) : Int) ((u / 9 : Nat) : Int) c.1 c.2
theorem up_back {x y qx qy : Int} : sdX qx qy x y = sdX x y qx qy ∧ sdY qx qy x y = sdY x y qx qy ∧ loE qx x = loE x qx ∧ loE qy y = loE y qy ∧ sdM qx qy x y = sdM x y qx qy := by
 have l : ∀ a b : Int, loE a b = loE b a := fun a b => by unfold loE; split <;> split <;> omega
 have e : decide (qy = y) = decide (y = qy) := by rw [decide_eq_decide]; exact eq_comm
 have h1 : sdX qx qy x y = sdX x y qx qy := by
  unfold sdX; rw [l qx x]
  by_cases q : qy = y
  ·rw [if_pos q, if_pos q.symm]
  ·rw [if_neg q, if_neg (fun z => q z.symm)]
 have h2 : sdY qx qy x y = sdY x y qx qy := by
  unfold sdY; rw [l qy y]
  by_cases q : qy = y
  ·rw [if_pos q, if_pos q.symm]
  ·rw [if_neg q, if_neg (fun z => q z.symm)]
 exact ⟨h1, h2, l _ _, l _ _, by unfold sdM; rw [h1, h2, e]⟩
theorem dom_way {e : Dm} (ho : okM e = true) : ∃ x y qx qy : Int, (0 ≤ x ∧ x ≤ 8 ∧ 0 ≤ y ∧ y ≤ 8) ∧ (0 ≤ qx ∧ qx ≤ 8 ∧ 0 ≤ qy ∧ qy ≤ 8) ∧ (qx, qy) ∈ endsP x y ∧ (x, y) ∈ endsP qx qy ∧ sdM x y qx qy = e ∧
  sdX x y qx qy = e.1 ∧ sdY x y qx qy = e.2.1 ∧ loE x qx = sx e.1 e.2.2 ∧ loE y qy = sy e.2.1 e.2.2 ∧ pl9 (x, y) = gapA e ∧ pl9 (qx, qy) = gapB e := by
 obtain ⟨a, c, b⟩ := e
 have mem : ∀ {x y qx qy : Int}, (0 ≤ qx ∧ qx ≤ 8 ∧ 0 ≤ qy ∧ qy ≤ 8) → ((qx = x ∧ qy = y - 1) ∨ (qx = x - 1 ∧ qy = y) ∨ (qx = x + 1 ∧ qy = y) ∨ (qx = x ∧ qy = y + 1)) → (qx, qy) ∈ endsP x y := fun h1 h2 => by
  unfold endsP
  refine List.mem_filter.2 ⟨?_, inC_iff.2 (by simp only; omega)⟩
  unfold ends4
  simp only [List.mem_cons, List.not_mem_nil, or_false, Prod.mk.injEq]
  exact h2
 cases b with
 | true =>
  have o := ok_dn ho
  have w1 : sx a true = a := by unfold sx; rw [if_pos rfl]
  have w2 : sy c true = c + 1 := by unfold sy; rw [if_pos rfl]; exact wrap_in (by omega) (by omega)
  have s1 : sdX a (c + 1) (a + 1) (c + 1) = a := by unfold sdX loE; rw [if_pos rfl, if_neg (by omega)]
  have s2 : sdY a (c + 1) (a + 1) (c + 1) = c := by unfold sdY loE; rw [if_pos rfl, if_neg (by omega)]; omega
  refine ⟨a, c + 1, a + 1, c + 1, by omega, by omega, mem (by omega) (by omega), mem (by omega) (by omega), ?_, s1, s2, ?_, ?_, ?_, ?_⟩
  ·unfold sdM; rw [s1, s2, decide_eq_true (rfl : c + 1 = c + 1)]
  ·show loE a (a + 1) = sx a true; rw [w1]; unfold loE; rw [if_neg (by omega)]
  ·show loE (c + 1) (c + 1) = sy c true; rw [w2]; unfold loE; rw [if_neg (by omega)]
  ·unfold pl9 gapA; simp
  ·unfold pl9 gapB; simp; omega
 | false =>
  have o := ok_rt ho
  have w1 : sx a false = a + 1 := by unfold sx; rw [if_neg (by simp)]; exact wrap_in (by omega) (by omega)
  have w2 : sy c false = c := by unfold sy; rw [if_neg (by simp)]
  have s1 : sdX (a + 1) c (a + 1) (c + 1) = a := by unfold sdX loE; rw [if_neg (by omega), if_neg (by omega)]; omega
  have s2 : sdY (a + 1) c (a + 1) (c + 1) = c := by unfold sdY loE; rw [if_neg (by omega), if_neg (by omega)]
  refine ⟨a + 1, c, a + 1, c + 1, by omega, by omega, mem (by omega) (by omega), mem (by omega) (by omega), ?_, s1, s2, ?_, ?_, ?_, ?_⟩
  ·unfold sdM; rw [s1, s2, decide_eq_false (by omega : ¬ c = c + 1)]
  ·show loE (a + 1) (a + 1) = sx a false; rw [w1]; unfold loE; rw [if_neg (by omega)]
  ·show loE c (c + 1) = sy c false; rw [w2]; unfold loE; rw [if_neg (by omega)]
  ·unfold pl9 gapA; simp
  ·unfold pl9 gapB; simp; omega
theorem mk_dn {a b : Int} (h : 0 ≤ a ∧ a ≤ 7 ∧ 0 ≤ b ∧ b ≤ 6) : okM (a, b, true) = true := by
 show domB a b true = true
 have e : wrap64 (b + 1) = b + 1 := wrap_in (by omega) (by omega)
 unfold domB sx sy
 rw [if_pos rfl, if_pos rfl, e, Bool.and_eq_true, okB_iff, okB_iff]
 unfold Ok
 omega
theorem mk_rt {a b : Int} (h : 0 ≤ a ∧ a ≤ 6 ∧ 0 ≤ b ∧ b ≤ 7) : okM (a, b, false) = true := by
 show domB a b false = true
 have e : wrap64 (a + 1) = a + 1 := wrap_in (by omega) (by omega)
 unfold domB sx sy
 rw [if_neg (by simp), if_neg (by simp), e, Bool.and_eq_true, okB_iff, okB_iff]
 unfold Ok
 omega
theorem up_dom {xs : List Int} {x y : Int} {c : Int × Int} (h1 : hasB xs (sdX x y c.1 c.2) (sdY x y c.1 c.2) = true) (h2 : hasB xs (loE x c.1) (loE y c.2) = true) :
  okM (sdM x y c.1 c.2) = true ∧ loE x c.1 = sx (sdX x y c.1 c.2) (decide (y = c.2)) ∧ loE y c.2 = sy (sdY x y c.1 c.2) (decide (y = c.2)) ∧ nbB (sdX x y c.1 c.2) (sdY x y c.1 c.2) (loE x c.1) (loE y c.2) = true := by
 obtain ⟨_, x0, x7, y0, y7, _⟩ := hasB_iff.1 h1
 obtain ⟨_, u0, u7, v0, v7, _⟩ := hasB_iff.1 h2
 unfold sdM
 by_cases q : y = c.2
 ·have eX : sdX x y c.1 c.2 = loE x c.1 := by unfold sdX; rw [if_pos q]
  have eY : sdY x y c.1 c.2 = loE y c.2 - 1 := by unfold sdY; rw [if_pos q]
  rw [eX] at x0 x7
  rw [eY] at y0 y7
  rw [eX, eY, decide_eq_true q]
  clear h1 h2 eX eY
  generalize loE x c.1 = a at *
  generalize loE y c.2 = b at *
  refine ⟨mk_dn (by omega), ?_, ?_, ?_⟩
  ·unfold sx; rw [if_pos rfl]
  ·unfold sy; rw [if_pos rfl, wrap_in (by omega) (by omega)]; omega
  ·rw [nbB_iff]; unfold Ok; omega
 ·have eX : sdX x y c.1 c.2 = loE x c.1 - 1 := by unfold sdX; rw [if_neg q]
  have eY : sdY x y c.1 c.2 = loE y c.2 := by unfold sdY; rw [if_neg q]
  rw [eX] at x0 x7
  rw [eY] at y0 y7
  rw [eX, eY, decide_eq_false q]
  clear h1 h2 eX eY
  generalize loE x c.1 = a at *
  generalize loE y c.2 = b at *
  refine ⟨mk_rt (by omega), ?_, ?_, ?_⟩
  ·unfold sx; rw [if_neg (by simp), wrap_in (by omega) (by omega)]; omega
  ·unfold sy; rw [if_neg (by simp)]
  ·rw [nbB_iff]; unfold Ok; omega
theorem up_gap {hs : List Int} {x y : Int} {c : Int × Int} (hx : 0 ≤ x ∧ x ≤ 8 ∧ 0 ≤ y ∧ y ≤ 8) (hc : c ∈ endsP x y) (ho : okM (sdM x y c.1 c.2) = true) :
  (pl9 (x, y) = gapA (sdM x y c.1 c.2) ∧ pl9 c = gapB (sdM x y c.1 c.2)) ∨ (pl9 (x, y) = gapB (sdM x y c.1 c.2) ∧ pl9 c = gapA (sdM x y c.1 c.2)) := by
 obtain ⟨hin, d, hd, e3, e4⟩ := ends_dir hc
 have h4 : d = 0 ∨ d = 1 ∨ d = 2 ∨ d = 3 := by omega
 unfold sdM sdX sdY at ho ⊢
 rcases h4 with rfl | rfl | rfl | rfl
 ·have a : c.1 = x + 1 := e3
  have b : c.2 = y := by rw [e4]; show y + 0 = y; omega
  have l1 : loE x c.1 = x := by unfold loE; rw [if_neg (by omega)]
  have l2 : loE y c.2 = y := by unfold loE; rw [if_neg (by omega)]
  rw [if_pos b.symm, if_pos b.symm, decide_eq_true b.symm, l1, l2] at *
  have := ok_dn ho
  left
  unfold pl9 gapA gapB
  simp only [if_pos]
  omega
 ·have a : c.1 = x := by rw [e3]; show x + 0 = x; omega
  have b : c.2 = y + 1 := e4
  have nb : ¬ y = c.2 := by omega
  have l1 : loE x c.1 = x := by unfold loE; rw [if_neg (by omega)]
  have l2 : loE y c.2 = y := by unfold loE; rw [if_neg (by omega)]
  rw [if_neg nb, if_neg nb, decide_eq_false nb, l1, l2] at *
  have := ok_rt ho
  left
  unfold pl9 gapA gapB
  simp only [Bool.false_eq_true, if_false]
  omega
 ·have a : c.1 = x - 1 := e3
  have b : c.2 = y := by rw [e4]; show y + 0 = y; omega
  have l1 : loE x c.1 = c.1 := by unfold loE; rw [if_pos (by omega)]
  have l2 : loE y c.2 = y := by unfold loE; rw [if_neg (by omega)]
  rw [if_pos b.symm, if_pos b.symm, decide_eq_true b.symm, l1, l2] at *
  have := ok_dn ho
  right
  unfold pl9 gapA gapB
  simp only [if_pos]
  omega
 ·have a : c.1 = x := by rw [e3]; show x + 0 = x; omega
  have b : c.2 = y - 1 := e4
  have nb : ¬ y = c.2 := by omega
  have l1 : loE x c.1 = x := by unfold loE; rw [if_neg (by omega)]
  have l2 : loE y c.2 = c.2 := by unfold loE; rw [if_pos (by omega)]
  rw [if_neg nb, if_neg nb, decide_eq_false nb, l1, l2] at *
  have := ok_rt ho
  right
  unfold pl9 gapA gapB
  simp only [Bool.false_eq_true, if_false]
  omega
theorem walk_tell {xs hs : List Int} {C : List Dm} (hC : ∀ e, e ∈ C ↔ walkG xs hs 81 0 e) : ∀ e, okM e = true → (e ∈ C ↔ tellG xs hs e) := by
 intro e ho
 rw [hC]
 constructor
 ·rintro ⟨u, c, hu, hc, ⟨h1, h2, a, b, ha, hb, h3⟩, rfl⟩
  have hu' : u < 81 := by
   rcases hu with h | ⟨_, i, hi, _⟩
   ·exact h
   ·omega
  obtain ⟨k1, k2, k3, k4⟩ := up_dom h1 h2
  refine ⟨h1, ?_, ?_⟩
  ·unfold sdM
   simp only
   rw [← k2, ← k3]; exact h2
  ·rcases up_gap (hs := hs) (by omega) hc k1 with ⟨g1, g2⟩ | ⟨g1, g2⟩
   ·exact ⟨a, b, by rw [← g1]; exact ha, by rw [← g2]; exact hb, .inr h3⟩
   ·exact ⟨b, a, by rw [← g2]; exact hb, by rw [← g1]; exact ha, .inl h3⟩
 ·rintro ⟨h1, h2, a, b, ha, hb, h3⟩
  obtain ⟨x, y, qx, qy, r1, r2, m1, m2, e1, e2, e3, e4, e5, e6, e7⟩ := dom_way ho
  have num : ∀ {x y : Int}, (0 ≤ x ∧ x ≤ 8 ∧ 0 ≤ y ∧ y ≤ 8) → pl9 (x, y) < 81 ∧ ((pl9 (x, y) % 9 : Nat) : Int) = x ∧ ((pl9 (x, y) / 9 : Nat) : Int) = y := fun h => by unfold pl9; simp only; omega
  obtain ⟨n1, n2, n3⟩ := num r1
  obtain ⟨n4, n5, n6⟩ := num r2
  rcases h3 with h3 | h3
  ·refine ⟨pl9 (qx, qy), (x, y), .inl n4, by rw [n5, n6]; exact m2, ?_, ?_⟩
   ·rw [n5, n6]
    obtain ⟨b1, b2, b3, b4, b5⟩ := @up_back x y qx qy
    unfold upG
    simp only
    rw [b1, b2, b3, b4, e2, e3, e4, e5]
    exact ⟨h1, h2, b, a, by rw [e7]; exact hb, by rw [e6]; exact ha, h3⟩
   ·rw [n5, n6]
    simp only
    rw [(@up_back x y qx qy).2.2.2.2]; exact e1.symm
  ·refine ⟨pl9 (x, y), (qx, qy), .inl n1, by rw [n2, n3]; exact m1, ?_, ?_⟩
   ·rw [n2, n3]
    unfold upG
    simp only
    rw [e2, e3, e4, e5]
    exact ⟨h1, h2, a, b, by rw [e6]; exact ha, by rw [e7]; exact hb, h3⟩
   ·rw [n2, n3]; exact e1.symm
theorem walk_step {xs hs : List Int} {C : List Dm} {v k : Nat} {c : Int × Int} (hk : (endsP ((v % 9 : Nat) : Int) ((v / 9 : Nat) : Int))[k]? = some c) (hC : ∀ e, e ∈ C ↔ walkG xs hs v k e) :
  (upG xs hs ((v % 9 : Nat) : Int) ((v / 9 : Nat) : Int) c.1 c.2 → ∀ e, e ∈ C ++ [sdM ((v % 9 : Nat) : Int) ((v / 9 : Nat) : Int) c.1 c.2] ↔ walkG xs hs v (k + 1) e) ∧
  (¬ upG xs hs ((v % 9 : Nat) : Int) ((v / 9 : Nat) : Int) c.1 c.2 → ∀ e, e ∈ C ↔ walkG xs hs v (k + 1) e) := by
 have hm : c ∈ endsP ((v % 9 : Nat) : Int) ((v / 9 : Nat) : Int) := List.mem_of_getElem? hk
 have key : ∀ e, walkG xs hs v (k + 1) e ↔ walkG xs hs v k e ∨ (upG xs hs ((v % 9 : Nat) : Int) ((v / 9 : Nat) : Int) c.1 c.2 ∧ e = sdM ((v % 9 : Nat) : Int) ((v / 9 : Nat) : Int) c.1 c.2) := fun e => by
  constructor
  ·rintro ⟨u, c', hu, hc, h1, h2⟩
   rcases hu with h | ⟨rfl, i, hi, hci⟩
   ·exact .inl ⟨u, c', .inl h, hc, h1, h2⟩
   ·by_cases q : i = k
    ·subst q
     rw [hk] at hci
     injection hci with hci
     subst hci
     exact .inr ⟨h1, h2⟩
    ·exact .inl ⟨u, c', .inr ⟨rfl, i, by omega, hci⟩, hc, h1, h2⟩
  ·rintro (⟨u, c', hu, hc, h1, h2⟩ | ⟨h1, h2⟩)
   ·refine ⟨u, c', ?_, hc, h1, h2⟩
    rcases hu with h | ⟨e, i, hi, hci⟩
    ·exact .inl h
    ·exact .inr ⟨e, i, by omega, hci⟩
   ·exact ⟨v, c, .inr ⟨rfl, k, by omega, hk⟩, hm, h1, h2⟩
 refine ⟨fun hup e => ?_, fun hup e => ?_⟩
 ·rw [key, List.mem_append, hC, List.mem_singleton]
  exact ⟨fun h => h.imp id (fun q => ⟨hup, q⟩), fun h => h.imp id (fun q => q.2)⟩
 ·rw [key, hC]
  exact ⟨.inl, fun h => h.resolve_right (fun q => hup q.1)⟩
theorem walk_next {xs hs : List Int} {C : List Dm} {v : Nat} (hC : ∀ e, e ∈ C ↔ walkG xs hs v (endsP ((v % 9 : Nat) : Int) ((v / 9 : Nat) : Int)).length e) : ∀ e, e ∈ C ↔ walkG xs hs (v + 1) 0 e := by
 intro e
 rw [hC]
 constructor
 ·rintro ⟨u, c, hu, hc, h⟩
  refine ⟨u, c, ?_, hc, h⟩
  rcases hu with q | ⟨rfl, _⟩
  ·exact .inl (by omega)
  ·exact .inl (by omega)
 ·rintro ⟨u, c, hu, hc, h⟩
  refine ⟨u, c, ?_, hc, h⟩
  rcases hu with q | ⟨_, i, hi, _⟩
  ·by_cases q2 : u = v
   ·subst q2
    obtain ⟨i, hi, e2⟩ := List.getElem_of_mem hc
    exact .inr ⟨rfl, i, hi, by rw [List.getElem?_eq_getElem hi, e2]⟩
   ·exact .inl (by omega)
  ·omega
theorem walk_zero (xs hs : List Int) : ∀ e, e ∈ ([] : List Dm) ↔ walkG xs hs 0 0 e := fun e =>
 ⟨fun h => by simp at h, fun ⟨u, c, hu, _⟩ => by
  rcases hu with q | ⟨_, i, hi, _⟩ <;> omega⟩
end Go.Proofs.YtmajllgfmclcoaaGreatDoor.Hgt
namespace Go.Proofs.YtmajllgfmclcoaaGreatDoor.Hgt
open Go.RowKit Dms Til Go.Joins
open Flo (simB)
theorem dif_lc {xs : List Int} {L M : List Dm} (hsim : simB xs = true) (hL : tilB xs L = true) (hM : tilB xs M = true) : difL L M (lc xs % 9 + 1) (lc xs / 9 + 1) = 0 := by
 obtain ⟨ok, h1, hone⟩ := sim_parts hsim
 obtain ⟨x, y, hc⟩ := cell_ex ok h1
 obtain ⟨l1, l2, l3⟩ := lc_ex hc
 refine Classical.byContradiction fun hne => ?_
 obtain ⟨a, b, e1, e2, ha, hb, g, _, _, _⟩ := inner (tl_of hL) (tl_of hM) hone (by omega) (by omega) hne
 have gl := gX_lt g
 have hv : 9 * (b - 1) + (a - 1) < lc xs := by omega
 have hcr : crnB xs (9 * (b - 1) + (a - 1)) = true := crn_iff.2 ⟨_, _, g, .inl (by omega), .inl (by omega)⟩
 rw [l3 _ hv] at hcr
 cases hcr
theorem hv_dif {xs : List Int} {L M : List Dm} {f g : Fm} (hsim : simB xs = true) (hL : tilB xs L = true) (hM : tilB xs M = true) (hf : Hts (gX xs) (xL L) (yL L) f) (hg : Hts (gX xs) (xL M) (yL M) g) :
  ∀ v, v < 81 → crnB xs v = true → hv xs f v - hv xs g v = 4 * difL L M (v % 9 + 1) (v / 9 + 1) := by
 obtain ⟨ok, h1, hone⟩ := sim_parts hsim
 obtain ⟨x, y, hc⟩ := cell_ex ok h1
 obtain ⟨l1, l2, l3⟩ := lc_ex hc
 have tL := tl_of hL
 have tM := tl_of hM
 have z := dif_lc hsim hL hM
 intro v hv81 hcv
 have key := all_cor ok h1 tL (Z := fun i j => f i j - g i j - 4 * difL L M i j = f (lc xs % 9 + 1) (lc xs / 9 + 1) - g (lc xs % 9 + 1) (lc xs / 9 + 1)) (fun i j hG hX => by
  have hij : i < 10 ∧ j < 10 := by rcases hG with q | q <;> (have := gX_lt q; omega)
  have e1 := hf.hor i j hij.1 hij.2 hG
  have e2 := hg.hor i j hij.1 hij.2 hG
  have e3 : difL L M (i + 1) (j + 1) = _ := dif_H tL tM (i := i) (j := j + 1) hij.1 (by omega)
  have e4 : difL L M i (j + 1) = dif (xL L) (yL L) (xL M) (yL M) i (j + 1) := rfl
  rw [← e4] at e3
  unfold wH at e1 e2
  rcases sg_one i (j + 1) with s | s <;> rw [s] at e1 e2 e3 <;> omega) (fun i j hG hY => by
  have hij : i < 10 ∧ j < 10 := by rcases hG with q | q <;> (have := gX_lt q; omega)
  have e1 := hf.ver i j hij.1 hij.2 hG
  have e2 := hg.ver i j hij.1 hij.2 hG
  have e3 : difL L M (i + 1) (j + 1) = _ := dif_V (xL L) (yL L) (xL M) (yL M) (i + 1) j
  have e4 : difL L M (i + 1) j = dif (xL L) (yL L) (xL M) (yL M) (i + 1) j := rfl
  rw [← e4] at e3
  unfold wV at e1 e2
  rcases sg_one (i + 1) j with s | s <;> rw [s] at e1 e2 e3 <;> omega) (crn_iff.1 l2) (by rw [z]; omega) _ _ (crn_iff.1 hcv)
 unfold Hgt.hv at9
 omega
theorem zw_map {α : Type} (m : Int → Int → Int) (a b : α → Int) : ∀ l : List α, List.zipWith m (l.map a) (l.map b) = l.map fun v => m (a v) (b v)
 | [] => rfl
 | x :: r => by simp only [List.map_cons, List.zipWith_cons_cons, zw_map m a b r]
def minR (hs gs : List Int) : List Int := List.zipWith min hs gs
def maxR (hs gs : List Int) : List Int := List.zipWith max hs gs
theorem join_row (m : Int → Int → Int) {t : Int} (ht : t = 1 ∨ t = -1) (hm : ∀ a b, m a b = b + (if 0 < t * (a - b) then 0 else a - b)) {xs : List Int} {L M : List Dm} {hs gs : List Int} (hsim : simB xs = true) (r : Row9 xs L hs) (q : Row9 xs M gs) :
  ∃ N, Row9 xs N (List.zipWith m hs gs) := by
 obtain ⟨ok, h1, hone⟩ := sim_parts hsim
 obtain ⟨f, hf, rfl, bf⟩ := r.f
 obtain ⟨g, hg, rfl, bg⟩ := q.f
 obtain ⟨N, hN, hd⟩ := join_ex hone q.til ht _ L r.til rfl
 obtain ⟨k, hk⟩ := hts_ex hsim hN
 have e1 := hv_dif hsim r.til q.til hf hg
 have e2 := hv_dif hsim hN q.til hk hg
 have e3 : ∀ v, v < 81 → crnB xs v = true → hv xs k v = m (hv xs f v) (hv xs g v) := fun v h hc => by
  have a1 := e1 v h hc
  have a2 := e2 v h hc
  rw [hd _ _ (by omega) (by omega)] at a2
  rw [hm, a1]
  rcases ht with rfl | rfl
  ·by_cases z : 0 < 1 * difL L M (v % 9 + 1) (v / 9 + 1)
   ·rw [if_pos z] at a2; rw [if_pos (by omega)]; omega
   ·rw [if_neg z] at a2; rw [if_neg (by omega)]; omega
  ·by_cases z : 0 < -1 * difL L M (v % 9 + 1) (v / 9 + 1)
   ·rw [if_pos z] at a2; rw [if_pos (by omega)]; omega
   ·rw [if_neg z] at a2; rw [if_neg (by omega)]; omega
 refine ⟨N, r.ok, r.one, hN, r.lcl, r.lcc, k, hk, ?_, fun v h hc => ?_⟩
 ·unfold hgL
  rw [zw_map]
  refine List.map_congr_left fun v hv' => ?_
  have hv' := List.mem_range.1 hv'
  by_cases c : crnB xs v = true
  ·rw [if_pos c, if_pos c, if_pos c, e3 v hv' c]
  ·rw [if_neg c, if_neg c, if_neg c, hm]
   rcases ht with rfl | rfl <;> rw [if_neg (by omega)] <;> omega
 ·rw [e3 v h hc, hm]
  have b1 := bf v h hc
  have b2 := bg v h hc
  rcases ht with rfl | rfl <;> split <;> omega
theorem lower_row {xs : List Int} {L M : List Dm} {hs gs : List Int} (hsim : simB xs = true) (r : Row9 xs L hs) (q : Row9 xs M gs) : ∃ N, Row9 xs N (minR hs gs) :=
 join_row min (t := 1) (.inl rfl) (fun a b => by split <;> omega) hsim r q
theorem higher_row {xs : List Int} {L M : List Dm} {hs gs : List Int} (hsim : simB xs = true) (r : Row9 xs L hs) (q : Row9 xs M gs) : ∃ N, Row9 xs N (maxR hs gs) :=
 join_row max (t := -1) (.inr rfl) (fun a b => by split <;> omega) hsim r q
def ht (hs : List Int) (k : Nat) : Int := hs[k]?.getD 0
def leH (hs gs : List Int) : Prop := ∀ k, k < 81 → ht hs k ≤ ht gs k
theorem ht_zw (m : Int → Int → Int) {hs gs : List Int} (h1 : hs.length = 81) (h2 : gs.length = 81) {k : Nat} (hk : k < 81) : ht (List.zipWith m hs gs) k = m (ht hs k) (ht gs k) := by
 unfold ht
 rw [List.getElem?_eq_getElem (by simp; omega), List.getElem?_eq_getElem (by omega), List.getElem?_eq_getElem (by omega)]
 simp
theorem ht_ext {hs gs : List Int} (h1 : hs.length = 81) (h2 : gs.length = 81) (h : ∀ k, k < 81 → ht hs k = ht gs k) : hs = gs :=
 List.ext_getElem (by omega) fun i p q => by
  have e := h i (by omega)
  unfold ht at e
  rw [List.getElem?_eq_getElem p, List.getElem?_eq_getElem q] at e
  exact e
theorem min_le {hs gs : List Int} (h1 : hs.length = 81) (h2 : gs.length = 81) : leH (minR hs gs) hs ∧ leH (minR hs gs) gs := by
 refine ⟨fun k hk => ?_, fun k hk => ?_⟩ <;> (unfold minR; rw [ht_zw min h1 h2 hk]; omega)
theorem max_le {hs gs : List Int} (h1 : hs.length = 81) (h2 : gs.length = 81) : leH hs (maxR hs gs) ∧ leH gs (maxR hs gs) := by
 refine ⟨fun k hk => ?_, fun k hk => ?_⟩ <;> (unfold maxR; rw [ht_zw max h1 h2 hk]; omega)
theorem min_eq {hs gs : List Int} (h1 : hs.length = 81) (h2 : gs.length = 81) : minR hs gs = hs ↔ leH hs gs := by
 constructor
 ·intro e k hk
  have a := ht_zw min h1 h2 hk
  unfold minR at e
  rw [e] at a; omega
 ·intro h
  refine ht_ext (by unfold minR; simp; omega) h1 fun k hk => ?_
  have := h k hk
  unfold minR; rw [ht_zw min h1 h2 hk]; omega
theorem row_til {xs hs : List Int} {L M : List Dm} (hsim : simB xs = true) (r : Row9 xs L hs) (q : Row9 xs M hs) : L = M :=
 (tfR_uniq (.inl ⟨rfl, hsim, r⟩) (.inl ⟨rfl, hsim, q⟩)).1
theorem below_same {xs hs gs : List Int} {L M N : List Dm} (hsim : simB xs = true) (r : Row9 xs L hs) (q : Row9 xs M gs) (n : Row9 xs N (minR hs gs)) : leH hs gs ↔ N = L := by
 rw [← min_eq r.len q.len]
 constructor
 ·intro e; rw [e] at n; exact row_til hsim n r
 ·rintro rfl; exact row_uniq n r
theorem sumI_le {α : Type} (c : α → Bool) (F G : α → Int) : ∀ l : List α, (∀ v ∈ l, c v = true → F v ≤ G v ∧ -80 ≤ F v ∧ G v ≤ 80) →
  sumI (l.map fun v => if c v then F v else -1000) ≤ sumI (l.map fun v => if c v then G v else -1000) ∧ (sumI (l.map fun v => if c v then F v else -1000) = sumI (l.map fun v => if c v then G v else -1000) → ∀ v ∈ l, c v = true → F v = G v)
 | [], _ => ⟨Int.le_refl _, fun _ v hv => by cases hv⟩
 | x :: r, h => by
  obtain ⟨i1, i2⟩ := sumI_le c F G r (fun v hv => h v (List.mem_cons_of_mem _ hv))
  have hx := h x List.mem_cons_self
  simp only [List.map_cons, sumI]
  cases q : c x with
  | false =>
   simp only [q, if_false, Bool.false_eq_true, if_true]
   refine ⟨by omega, fun e v hv hc => ?_⟩
   rcases List.mem_cons.1 hv with rfl | hv
   ·rw [q] at hc; cases hc
   ·exact i2 (by omega) v hv hc
  | true =>
   obtain ⟨a, b, d⟩ := hx q
   simp only [q, if_true]
   rw [if_neg (by omega), if_neg (by omega)]
   refine ⟨by omega, fun e v hv hc => ?_⟩
   rcases List.mem_cons.1 hv with rfl | hv
   ·omega
   ·exact i2 (by omega) v hv hc
theorem sum_le {xs : List Int} {L M : List Dm} {hs gs : List Int} (r : Row9 xs L hs) (q : Row9 xs M gs) (h : leH hs gs) : sumH hs 81 ≤ sumH gs 81 ∧ (sumH hs 81 = sumH gs 81 → hs = gs) := by
 have l1 := r.len
 have l2 := q.len
 have e1 := sumH_I (hs := hs) (by omega) r.bd 81 (by omega)
 have e2 := sumH_I (hs := gs) (by omega) q.bd 81 (by omega)
 rw [List.take_of_length_le (by omega)] at e1 e2
 rw [e1, e2]
 obtain ⟨f, hf, rfl, bf⟩ := r.f
 obtain ⟨g, hg, rfl, bg⟩ := q.f
 have k := sumI_le (crnB xs) (hv xs f) (hv xs g) (List.range 81) (fun v hv' hc => by
  have hv' := List.mem_range.1 hv'
  have a := h v hv'
  unfold ht at a
  rw [row_at xs f hv', row_at xs g hv', if_pos hc, if_pos hc] at a
  exact ⟨a, (bf v hv' hc).1, (bg v hv' hc).2⟩)
 refine ⟨k.1, fun e => ?_⟩
 have k2 := k.2 e
 unfold hgL
 refine List.map_congr_left fun v hv' => ?_
 by_cases c : crnB xs v = true
 ·rw [if_pos c, if_pos c, k2 v hv' c]
 ·rw [if_neg c, if_neg c]
theorem least_below {xs : List Int} {L M : List Dm} {hs gs : List Int} (hsim : simB xs = true) (r : Row9 xs L hs) (q : Row9 xs M gs) (h : ∀ N ks, Row9 xs N ks → sumH hs 81 ≤ sumH ks 81) : leH hs gs := by
 obtain ⟨N, n⟩ := lower_row hsim r q
 obtain ⟨m1, m2⟩ := min_le r.len q.len
 obtain ⟨s1, s2⟩ := sum_le n r m1
 have := h N _ n
 rw [← s2 (by omega)]
 exact m2
theorem greatest_above {xs : List Int} {L M : List Dm} {hs gs : List Int} (hsim : simB xs = true) (r : Row9 xs L hs) (q : Row9 xs M gs) (h : ∀ N ks, Row9 xs N ks → sumH ks 81 ≤ sumH hs 81) : leH gs hs := by
 obtain ⟨N, n⟩ := higher_row hsim r q
 obtain ⟨m1, m2⟩ := max_le r.len q.len
 obtain ⟨s1, s2⟩ := sum_le r n m1
 have := h N _ n
 rw [s2 (by omega)]
 exact m2
end Go.Proofs.YtmajllgfmclcoaaGreatDoor.Hgt
