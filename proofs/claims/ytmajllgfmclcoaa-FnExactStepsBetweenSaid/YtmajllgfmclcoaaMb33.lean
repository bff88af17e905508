/- JoS in one text. -/
import Derived.Test.YtmajllgfmclcoaaMb29
import Derived.Test.YtmajllgfmclcoaaMb32

namespace Go.Proofs.Ytmajllgfmclcoaa.Jn
set_option linter.unusedVariables false
set_option linter.unusedSimpArgs false
set_option maxRecDepth 100000
open Go.RowKit Go.Proofs.Ytmajllgfmclcoaa.Cell Go.Proofs.Ytmajllgfmclcoaa.Dom Go.Proofs.Ytmajllgfmclcoaa.Dms Go.Proofs.Ytmajllgfmclcoaa.Til Go.Proofs.Ytmajllgfmclcoaa.Hgt Go.Joins
open Go.Proofs.Ytmajllgfmclcoaa.Reg (ints RowB rowB_own own_below own_base)

structure Hs2 (w : World) (A1 : Option Addr) (n1 : Nat) (hs : List Int) (A2 : Option Addr) (n2 : Nat) (gs : List Int) (W : World) : Prop where
 bel : Below w.heap.size w W
 r1 : RowB W W.heap.size A1 hs
 r2 : RowB W W.heap.size A2 gs
theorem Hs2.on {w W W' : World} {A1 : Option Addr} {n1 : Nat} {hs : List Int} {A2 : Option Addr} {n2 : Nat} {gs : List Int} (k : Hs2 w A1 n1 hs A2 n2 gs W) (hb : Below W.heap.size W W') : Hs2 w A1 n1 hs A2 n2 gs W' :=
 ⟨k.bel.trans (hb.mono k.bel.size), (k.r1.below hb (Nat.le_refl _)).mono hb.size, (k.r2.below hb (Nat.le_refl _)).mono hb.size⟩
theorem Hs2.drew {w W : World} {A1 : Option Addr} {n1 : Nat} {hs : List Int} {A2 : Option Addr} {n2 : Nat} {gs : List Int} (k : Hs2 w A1 n1 hs A2 n2 gs W) : Hs2 w A1 n1 hs A2 n2 gs W.drew := ⟨k.bel.drew, k.r1, k.r2⟩
theorem Hs2.drewN {w W : World} {A1 : Option Addr} {n1 : Nat} {hs : List Int} {A2 : Option Addr} {n2 : Nat} {gs : List Int} (k : Hs2 w A1 n1 hs A2 n2 gs W) (q : Nat) : Hs2 w A1 n1 hs A2 n2 gs (W.drewN q) := ⟨drewBelow k.bel q, k.r1, k.r2⟩
theorem row_cell {W : World} {A : Option Addr} {xs : List Int} (r : RowB W W.heap.size A xs) {k : Nat} (hk : k < xs.length) : ∃ b off, A = some ⟨b, off, none⟩ ∧ W.cell? ⟨b, off + k, none⟩ = some (.int .i64 xs[k]) := by
 obtain ⟨b, off, h1, h2⟩ := r
 exact ⟨b, off, (h1 (by omega)).1, h2 k _ (List.getElem?_eq_getElem hk)⟩
set_option maxHeartbeats 4000000 in
theorem sIsBelow (w : World) (A : Option Addr) (n cap B : Nat) (xs : List Int) (hx : xs.length = n) (hn : (n : Int) ≤ 9223372036854775807) (h : RowB w B A xs) (hB : B ≤ w.heap.size)
  (A' : Option Addr) (n' cap' B' : Nat) (L : List Dm) (hL : L.length = n') (hn' : (n' : Int) ≤ 9223372036854775807) (h' : RowM w B' A' L) (hB' : B' ≤ w.heap.size)
  (A'' : Option Addr) (n'' cap'' B'' : Nat) (M : List Dm) (hM : M.length = n'') (hn'' : (n'' : Int) ≤ 9223372036854775807) (h'' : RowM w B'' A'' M) (hB'' : B'' ≤ w.heap.size) :
  Calls Try.prog 7 #[.agg #[.slice A n cap], .slice A' n' cap', .slice A'' n'' cap''] w (BelP xs L M w) := by
 have HS := Lib.hid (r1_start w (.slice A n cap))
 have HH := Lib.hid (fun W (hb : Below w.heap.size w W) => sHeights W A n cap B xs hx hn (h.below hb hB) (by have := hb.size; omega) A' n' cap' B' L hL hn' (h'.below hb hB') (by have := hb.size; omega))
 have HG := Lib.hid (fun W (hb : Below w.heap.size w W) => sHeights W A n cap B xs hx hn (h.below hb hB) (by have := hb.size; omega) A'' n'' cap'' B'' M hM hn'' (h''.below hb hB'') (by have := hb.size; omega))
 clear hx hn h hB hL hn' h' hB' hM hn'' h'' hB''
 go_enter Try.func7, Try.ntmps7
 go_wp2_with fail
 have c0 := HS.out.2.c0
 refine (HH.out _ HS.out.1).mono ?_
 rintro e w1 ⟨hs, A1, n1, c1, r1, l1, rfl, hown1, hb1⟩
 have S1 := HS.out.on hb1
 have R1 := rowB_own hown1
 clear HS HH hb1 hown1 c0
 have c0 := S1.2.c0
 go_wp2_with fail
 refine (HG.out _ S1.1).mono ?_
 rintro e w2 ⟨gs, A2, n2, c2, r2, l2, rfl, hown2, hb2⟩
 have S2 := S1.on hb2
 have HK := Lib.hid (⟨S2.1, (R1.below hb2 (Nat.le_refl _)).mono hb2.size, rowB_own hown2⟩ : Hs2 w A1 n1 hs A2 n2 gs w2)
 clear HG hb2 hown2 c0 S1 S2 R1
 have HT := Lib.hid (rows_two r1 r2)
 have HR1 := Lib.hid r1
 have HR2 := Lib.hid r2
 have HL1 := Lib.hid l1
 have HL2 := Lib.hid l2
 clear r1 r2 l1 l2
 go_upto_region 4 with fail
 go_loopw [9] (fun i wr => ∃ k : Nat, k ≤ n1 ∧ i = .int .i64 k ∧ Hid (∀ j, j < k → ht hs j ≤ ht gs j) ∧ Hid (Hs2 w A1 n1 hs A2 n2 gs wr)) (fun i _ => n1 - (intOf i).toNat)
 case atStart => exact ⟨0, Nat.zero_le _, rfl, Lib.hid (fun j hj => by omega), HK⟩
 case round =>
  clear HK
  obtain ⟨k, hk, rfl, HLe, HK⟩ := hrel
  by_cases hlt : k < n1
  ·have hltI : (k : Int) < (n1 : Int) := by omega
   by_cases hq : n1 = n2
   ·subst hq
    have hqI : (((n1 : Nat) : Int) == ((n1 : Nat) : Int)) = true := by simp
    have hTw : Two xs L M hs gs := HT.out.resolve_left (fun e => by
     rcases e with e | e
     ·have := HL1.out; rw [e] at this; simp at this; omega
     ·have := HL2.out; rw [e] at this; simp at this; omega)
    have hk81 : k < 81 := by have := HL1.out; have := hTw.lh; omega
    obtain ⟨b1, o1, hA1, e1⟩ := row_cell HK.out.r1 (k := k) (by rw [hTw.lh]; exact hk81)
    obtain ⟨b2, o2, hA2, e2⟩ := row_cell HK.out.r2 (k := k) (by rw [hTw.lg]; exact hk81)
    have E1 := ht_at (hs := hs) (k := k) (by rw [hTw.lh]; exact hk81)
    have E2 := ht_at (hs := gs) (k := k) (by rw [hTw.lg]; exact hk81)
    subst hA1; subst hA2
    rw [← E1] at e1
    rw [← E2] at e2
    clear E1 E2
    have HNo := Lib.hid (fun h => bel_not HR1.out HR2.out hTw hk81 h)
    have HNx := Lib.hid (fun (h : ht hs k ≤ ht gs k) j (hj : j < k + 1) => show ht hs j ≤ ht gs j from by
     by_cases e : j = k
     ·subst e; exact h
     ·exact HLe.out j (by omega))
    clear hTw
    generalize ht hs k = x at e1 HNo HNx
    generalize ht gs k = y at e2 HNo HNx
    by_cases hc : y < x
    ·have HE := Lib.hid (HNo.out hc)
     go_wp2_with fail
     go_quiet (fail)
     go_wp2
     go_ret
     exact ⟨false, rfl, HE.out, by first | exact HK.out.bel | exact HK.out.bel.drew | exact drewBelow HK.out.bel _⟩
    ·have HE := Lib.hid (HNx.out (by omega))
     go_wp2_with fail
     go_quiet (fail)
     go_wp2
     go_roundw
     case rel => exact ⟨k + 1, by omega, by go_num, HE, by first | exact HK | exact Lib.hid HK.out.drew | exact Lib.hid (HK.out.drewN _)⟩
     case measure => (simp [intOf] <;> omega)
   ·have hqI : (((n1 : Nat) : Int) == ((n2 : Nat) : Int)) = false := by simp; omega
    have hno : hs = [] ∨ gs = [] := HT.out.resolve_right (fun t => by have := t.lh; have := t.lg; have := HL1.out; have := HL2.out; omega)
    have HE := Lib.hid (bel_no HR1.out HR2.out hno)
    have h1 : (0 : Int) < (n1 : Int) := by omega
    have h2 : ¬ (0 : Int) < (n2 : Int) := by
     have a1 := HL1.out; have a2 := HL2.out
     rcases hno with e | e
     ·subst e; simp at a1; omega
     ·subst e; simp at a2; omega
    clear hno
    go_wp2
    go_ret
    exact ⟨false, congrArg (fun b => Ending.returned (Value.bool b)) (decide_eq_false (by omega)), HE.out, HK.out.bel⟩
  ·have hltI : ¬ (k : Int) < (n1 : Int) := by omega
   rcases HT.out with hno | t
   ·have HE := Lib.hid (bel_no HR1.out HR2.out hno)
    by_cases h1 : (0 : Int) < (n1 : Int)
    ·have h2 : ¬ (0 : Int) < (n2 : Int) := by
      have a1 := HL1.out; have a2 := HL2.out
      rcases hno with e | e
      ·subst e; simp at a1; omega
      ·subst e; simp at a2; omega
     clear hno
     go_wp2
     go_ret
     exact ⟨false, congrArg (fun b => Ending.returned (Value.bool b)) (decide_eq_false (by omega)), HE.out, HK.out.bel⟩
    ·clear hno
     go_wp2
     go_ret
     exact ⟨false, rfl, HE.out, HK.out.bel⟩
   ·have a1 := HL1.out
    have a2 := HL2.out
    have b1 := t.lh
    have b2 := t.lg
    have HE := Lib.hid (bel_yes HR1.out HR2.out t (fun j hj => HLe.out j (by omega)))
    have h1 : (0 : Int) < (n1 : Int) := by omega
    have h2 : (0 : Int) < (n2 : Int) := by omega
    clear a1 a2 b1 b2 t
    go_wp2
    go_ret
    exact ⟨true, congrArg (fun b => Ending.returned (Value.bool b)) (decide_eq_true (by omega)), HE.out, HK.out.bel⟩
theorem dst_next {hs gs : List Int} (b : ∀ k, k < 81 → (ht hs k = -1000 ∨ (-80 ≤ ht hs k ∧ ht hs k ≤ 80)) ∧ (ht gs k = -1000 ∨ (-80 ≤ ht gs k ∧ ht gs k ≤ 80))) {k : Nat} (hk : k < 81) :
  ∃ d1 d2 : Int, IntKind.i64.wrap (ht hs k - ht gs k) = d1 ∧ IntKind.i64.wrap (ht gs k - ht hs k) = d2 ∧ (d1 < d2 → IntKind.i64.wrap (((dst hs gs k : Nat) : Int) + d2) = ((dst hs gs (k + 1) : Nat) : Int)) ∧ (¬ d1 < d2 → IntKind.i64.wrap (((dst hs gs k : Nat) : Int) + d1) = ((dst hs gs (k + 1) : Nat) : Int)) := by
 have h1 := b k hk
 have h2 := dst_small b k (by omega)
 rw [dst_step]
 generalize ht hs k = x at *
 generalize ht gs k = y at *
 refine ⟨x - y, y - x, by rw [IntKind.wrap_i64]; omega, by rw [IntKind.wrap_i64]; omega, fun q => by rw [IntKind.wrap_i64]; omega, fun q => by rw [IntKind.wrap_i64]; omega⟩
set_option maxHeartbeats 4000000 in
theorem sStepsBetween (w : World) (A : Option Addr) (n cap B : Nat) (xs : List Int) (hx : xs.length = n) (hn : (n : Int) ≤ 9223372036854775807) (h : RowB w B A xs) (hB : B ≤ w.heap.size)
  (A' : Option Addr) (n' cap' B' : Nat) (L : List Dm) (hL : L.length = n') (hn' : (n' : Int) ≤ 9223372036854775807) (h' : RowM w B' A' L) (hB' : B' ≤ w.heap.size)
  (A'' : Option Addr) (n'' cap'' B'' : Nat) (M : List Dm) (hM : M.length = n'') (hn'' : (n'' : Int) ≤ 9223372036854775807) (h'' : RowM w B'' A'' M) (hB'' : B'' ≤ w.heap.size) :
  Calls Try.prog 13 #[.agg #[.slice A n cap], .slice A' n' cap', .slice A'' n'' cap''] w (StpP xs L M w) := by
 have HS := Lib.hid (r1_start w (.slice A n cap))
 have HH := Lib.hid (fun W (hb : Below w.heap.size w W) => sHeights W A n cap B xs hx hn (h.below hb hB) (by have := hb.size; omega) A' n' cap' B' L hL hn' (h'.below hb hB') (by have := hb.size; omega))
 have HG := Lib.hid (fun W (hb : Below w.heap.size w W) => sHeights W A n cap B xs hx hn (h.below hb hB) (by have := hb.size; omega) A'' n'' cap'' B'' M hM hn'' (h''.below hb hB'') (by have := hb.size; omega))
 clear hx hn h hB hL hn' h' hB' hM hn'' h'' hB''
 go_enter Try.func13, Try.ntmps13
 go_wp2_with fail
 have c0 := HS.out.2.c0
 refine (HH.out _ HS.out.1).mono ?_
 rintro e w1 ⟨hs, A1, n1, c1, r1, l1, rfl, hown1, hb1⟩
 have S1 := HS.out.on hb1
 have R1 := rowB_own hown1
 clear HS HH hb1 hown1 c0
 have c0 := S1.2.c0
 go_wp2_with fail
 refine (HG.out _ S1.1).mono ?_
 rintro e w2 ⟨gs, A2, n2, c2, r2, l2, rfl, hown2, hb2⟩
 have S2 := S1.on hb2
 have HK := Lib.hid (⟨S2.1, (R1.below hb2 (Nat.le_refl _)).mono hb2.size, rowB_own hown2⟩ : Hs2 w A1 n1 hs A2 n2 gs w2)
 clear HG hb2 hown2 c0 S1 S2 R1
 rcases rows_two r1 r2 with hno | t
 ·have HE := Lib.hid (stp_no r1 r2 hno)
  by_cases h1 : n1 = 0
  ·subst h1
   have q1 : (((0 : Nat) : Int) == 0) = true := rfl
   clear hno l1 l2 r1 r2
   go_wp2
   go_ret
   exact ⟨-1, rfl, HE.out, HK.out.bel⟩
  ·have q1 : (((n1 : Nat) : Int) == 0) = false := by simp; omega
   have h2 : n2 = 0 := by
    rcases hno with e | e
    ·subst e; simp at l1; omega
    ·subst e; simp at l2; omega
   subst h2
   have q2 : (((0 : Nat) : Int) == 0) = true := rfl
   clear hno l1 l2 r1 r2
   go_wp2
   go_ret
   exact ⟨-1, rfl, HE.out, HK.out.bel⟩
 ·have h1 : n1 = 81 := by have := t.lh; omega
  have h2 : n2 = 81 := by have := t.lg; omega
  subst h1; subst h2
  have q1 : (((81 : Nat) : Int) == 0) = false := rfl
  have HE := Lib.hid (stp_of r1 r2 t (d := dst hs gs 81) rfl)
  have HD := Lib.hid (fun k hk => dst_next (dst_bd t.rh t.rg) (k := k) hk)
  have HDs := Lib.hid (dst_small (dst_bd t.rh t.rg) 81 (Nat.le_refl _))
  have HC1 := Lib.hid (fun k (hk : k < 81) => show k < hs.length from by rw [t.lh]; exact hk)
  have HC2 := Lib.hid (fun k (hk : k < 81) => show k < gs.length from by rw [t.lg]; exact hk)
  have HD0 := Lib.hid (dst_zero hs gs)
  generalize hD : dst hs gs = D at HE HD HDs HD0
  clear hD l1 l2 r1 r2 t
  go_upto_region 7 with fail
  go_loopw [9, 10] (fun d i wr => ∃ k : Nat, k ≤ 81 ∧ d = .int .i64 ((D k : Nat) : Int) ∧ i = .int .i64 k ∧ Hid (Hs2 w A1 81 hs A2 81 gs wr)) (fun _ i _ => 81 - (intOf i).toNat)
  case atStart => exact ⟨0, Nat.zero_le _, by rw [HD0.out]; rfl, rfl, HK⟩
  case round =>
   clear HK
   obtain ⟨k, hk, rfl, rfl, HK⟩ := hrel
   by_cases hlt : k < 81
   ·have hltI : (k : Int) < ((81 : Nat) : Int) := by omega
    obtain ⟨d1, d2, e1, e2, e3, e4⟩ := HD.out k hlt
    obtain ⟨b1, o1, hA1, g1⟩ := row_cell HK.out.drew.r1 (k := k) (HC1.out k hlt)
    obtain ⟨b2, o2, hA2, g2⟩ := row_cell HK.out.drew.r2 (k := k) (HC2.out k hlt)
    subst hA1; subst hA2
    rw [← ht_at (HC1.out k hlt)] at g1
    rw [← ht_at (HC2.out k hlt)] at g2
    generalize ht hs k = x at g1 e1 e2
    generalize ht gs k = y at g2 e1 e2
    obtain ⟨dk, hdk⟩ : ∃ dk : Int, ((D k : Nat) : Int) = dk := ⟨_, rfl⟩
    rw [hdk] at e3 e4 ⊢
    obtain ⟨d, hd⟩ : ∃ d, max d1 d2 = d := ⟨_, rfl⟩
    have e5 : IntKind.i64.wrap (dk + d) = ((D (k + 1) : Nat) : Int) := by
     by_cases c : d1 < d2
     ·rw [show d = d2 by omega]; exact e3 c
     ·rw [show d = d1 by omega]; exact e4 (by omega)
    have e6 : (if d1 < d2 then d2 else d1) = d := by split <;> omega
    clear e3 e4 hd hdk
    go_wp2_with fail
    refine wp_region_noPanic ?_
    refine wp_region_held_drew (S := (fun w' => w'.cell? ⟨b1, o1 + k, none⟩ = some (.int .i64 x) ∧ w'.cell? ⟨b2, o2 + k, none⟩ = some (.int .i64 y))) (by kernel_rfl) (⟨g1, g2⟩) (fun hHeld => ?_)
    have HK1 := Lib.hid HK.out.drew
    clear HK g1 g2
    generalize wr.drew = W1 at HK1 hHeld ⊢
    refine wpAnyH_take (i := 0) (v := ?_) rfl (by kernel_rfl) (by kernel_rfl) (by kernel_rfl) (fun _ _ _ h => h) (Or.inl ⟨by rfl, ?_⟩) (by assumption) ?_
    rotate_left
    ·(intro w' hS; (try dsimp only at hS); go_simp; try with_reducible rfl)
    try simp only [Act.put, List.getElem_toArray, List.getElem_cons_succ, List.getElem_cons_zero, List.setIfInBounds_toArray, List.set_cons_zero, List.set_cons_succ]
    refine wpAnyH_take (i := 1) (v := ?_) rfl (by kernel_rfl) (by kernel_rfl) (by kernel_rfl) (fun _ _ _ h => h) (Or.inl ⟨by rfl, ?_⟩) (by assumption) ?_
    rotate_left
    ·(intro w' hS; (try dsimp only at hS); go_simp; try with_reducible rfl)
    try simp only [Act.put, List.getElem_toArray, List.getElem_cons_succ, List.getElem_cons_zero, List.setIfInBounds_toArray, List.set_cons_zero, List.set_cons_succ]
    refine wpAnyH_take (i := 2) (v := ?_) rfl (by kernel_rfl) (by kernel_rfl) (by kernel_rfl) (fun _ _ _ h => h) (Or.inl ⟨by rfl, ?_⟩) (by assumption) ?_
    rotate_left
    ·(intro w' hS; (try dsimp only at hS); go_simp; try with_reducible rfl)
    try simp only [Act.put, List.getElem_toArray, List.getElem_cons_succ, List.getElem_cons_zero, List.setIfInBounds_toArray, List.set_cons_zero, List.set_cons_succ]
    refine wpAnyH_take (i := 3) (v := ?_) rfl (by kernel_rfl) (by kernel_rfl) (by kernel_rfl) (fun _ _ _ h => h) (Or.inl ⟨by rfl, ?_⟩) (by assumption) ?_
    rotate_left
    ·(intro w' hS; (try dsimp only at hS); go_simp; try with_reducible rfl)
    try simp only [Act.put, List.getElem_toArray, List.getElem_cons_succ, List.getElem_cons_zero, List.setIfInBounds_toArray, List.set_cons_zero, List.set_cons_succ]
    refine wpAnyH_take (i := 4) (v := ?_) rfl (by kernel_rfl) (by kernel_rfl) (by kernel_rfl) (fun _ _ _ h => h) (Or.inl ⟨by rfl, ?_⟩) (by assumption) ?_
    rotate_left
    ·(intro w' hS; (try dsimp only at hS); go_simp; try with_reducible rfl)
    try simp only [Act.put, List.getElem_toArray, List.getElem_cons_succ, List.getElem_cons_zero, List.setIfInBounds_toArray, List.set_cons_zero, List.set_cons_succ]
    refine wpAnyH_take (i := 5) (v := ?_) rfl (by kernel_rfl) (by kernel_rfl) (by kernel_rfl) (fun _ _ _ h => h) (Or.inl ⟨by rfl, ?_⟩) (by assumption) ?_
    rotate_left
    ·(intro w' hS; (try dsimp only at hS); go_simp; try with_reducible rfl)
    try simp only [Act.put, List.getElem_toArray, List.getElem_cons_succ, List.getElem_cons_zero, List.setIfInBounds_toArray, List.set_cons_zero, List.set_cons_succ]
    refine wpAnyH_take (i := 6) (v := ?_) rfl (by kernel_rfl) (by kernel_rfl) (by kernel_rfl) (fun _ _ _ h => h) (Or.inl ⟨by rfl, ?_⟩) (by assumption) ?_
    rotate_left
    ·(intro w' hS; (try dsimp only at hS); go_simp; try with_reducible rfl)
    try simp only [Act.put, List.getElem_toArray, List.getElem_cons_succ, List.getElem_cons_zero, List.setIfInBounds_toArray, List.set_cons_zero, List.set_cons_succ]
    refine wpAnyH_take (i := 7) (v := ?_) rfl (by kernel_rfl) (by kernel_rfl) (by kernel_rfl) (fun _ _ _ h => h) (Or.inl ⟨by rfl, ?_⟩) (by assumption) ?_
    rotate_left
    ·(intro w' hS; (try dsimp only at hS); go_simp; try with_reducible rfl)
    try simp only [Act.put, List.getElem_toArray, List.getElem_cons_succ, List.getElem_cons_zero, List.setIfInBounds_toArray, List.set_cons_zero, List.set_cons_succ]
    refine wpAnyH_take (i := 8) (v := ?_) rfl (by kernel_rfl) (by kernel_rfl) (by kernel_rfl) (fun _ _ _ h => h) (Or.inl ⟨by rfl, ?_⟩) (by assumption) ?_
    rotate_left
    ·(intro w' hS; (try dsimp only at hS); go_simp; try with_reducible rfl)
    try simp only [Act.put, List.getElem_toArray, List.getElem_cons_succ, List.getElem_cons_zero, List.setIfInBounds_toArray, List.set_cons_zero, List.set_cons_succ]
    refine wpAnyH_take (i := 9) (v := ?_) rfl (by kernel_rfl) (by kernel_rfl) (by kernel_rfl) (fun _ _ _ h => h) (Or.inl ⟨by rfl, ?_⟩) (by assumption) ?_
    rotate_left
    ·(intro w' hS; (try dsimp only at hS); go_simp; try with_reducible rfl)
    try simp only [Act.put, List.getElem_toArray, List.getElem_cons_succ, List.getElem_cons_zero, List.setIfInBounds_toArray, List.set_cons_zero, List.set_cons_succ]
    refine wpAnyH_take (i := 10) (v := ?_) rfl (by kernel_rfl) (by kernel_rfl) (by kernel_rfl) (fun _ _ _ h => h) (Or.inl ⟨by rfl, ?_⟩) (by assumption) ?_
    rotate_left
    ·(intro w' hS; (try dsimp only at hS); go_simp; try with_reducible rfl)
    try simp only [Act.put, List.getElem_toArray, List.getElem_cons_succ, List.getElem_cons_zero, List.setIfInBounds_toArray, List.set_cons_zero, List.set_cons_succ]
    refine wpAnyH_take (i := 11) (v := ?_) rfl (by kernel_rfl) (by kernel_rfl) (by kernel_rfl) (fun _ _ _ h => h) (Or.inl ⟨by rfl, ?_⟩) (by assumption) ?_
    rotate_left
    ·(intro w' hS; (try dsimp only at hS); go_simp; try with_reducible rfl)
    try simp only [Act.put, List.getElem_toArray, List.getElem_cons_succ, List.getElem_cons_zero, List.setIfInBounds_toArray, List.set_cons_zero, List.set_cons_succ]
    refine wpAnyH_take (i := 12) (v := ?_) rfl (by kernel_rfl) (by kernel_rfl) (by kernel_rfl) (fun _ _ _ h => h) (Or.inl ⟨by rfl, ?_⟩) (by assumption) ?_
    rotate_left
    ·(intro w' hS; (try dsimp only at hS); go_simp; try with_reducible rfl)
    try simp only [Act.put, List.getElem_toArray, List.getElem_cons_succ, List.getElem_cons_zero, List.setIfInBounds_toArray, List.set_cons_zero, List.set_cons_succ]
    refine wpAnyH_take (i := 13) (v := ?_) rfl (by kernel_rfl) (by kernel_rfl) (by kernel_rfl) (fun _ _ _ h => h) (Or.inl ⟨by rfl, ?_⟩) (by assumption) ?_
    rotate_left
    ·(intro w' hS; (try dsimp only at hS); go_simp; try with_reducible rfl)
    try simp only [Act.put, List.getElem_toArray, List.getElem_cons_succ, List.getElem_cons_zero, List.setIfInBounds_toArray, List.set_cons_zero, List.set_cons_succ]
    refine wpAnyH_take (i := 14) (v := ?_) rfl (by kernel_rfl) (by kernel_rfl) (by kernel_rfl) (fun _ _ _ h => h) (Or.inl ⟨by rfl, ?_⟩) (by assumption) ?_
    rotate_left
    ·(intro w' hS; (try dsimp only at hS); go_simp; try with_reducible rfl)
    try simp only [Act.put, List.getElem_toArray, List.getElem_cons_succ, List.getElem_cons_zero, List.setIfInBounds_toArray, List.set_cons_zero, List.set_cons_succ]
    refine wpAnyH_take (i := 15) (v := ?_) rfl (by kernel_rfl) (by kernel_rfl) (by kernel_rfl) (fun _ _ _ h => h) (Or.inl ⟨by rfl, ?_⟩) (by assumption) ?_
    rotate_left
    ·(intro w' hS; (try dsimp only at hS); go_simp; try with_reducible rfl)
    try simp only [Act.put, List.getElem_toArray, List.getElem_cons_succ, List.getElem_cons_zero, List.setIfInBounds_toArray, List.set_cons_zero, List.set_cons_succ]
    refine wpAnyH_take (i := 16) (v := ?_) rfl (by kernel_rfl) (by kernel_rfl) (by kernel_rfl) (fun _ _ _ h => h) (Or.inl ⟨by rfl, ?_⟩) (by assumption) ?_
    rotate_left
    ·(intro w' hS; (try dsimp only at hS); go_simp; try with_reducible rfl)
    try simp only [Act.put, List.getElem_toArray, List.getElem_cons_succ, List.getElem_cons_zero, List.setIfInBounds_toArray, List.set_cons_zero, List.set_cons_succ]
    refine wpAnyH_take (i := 17) (v := ?_) rfl (by kernel_rfl) (by kernel_rfl) (by kernel_rfl) (fun _ _ _ h => h) (Or.inl ⟨by rfl, ?_⟩) (by assumption) ?_
    rotate_left
    ·(intro w' hS; (try dsimp only at hS); go_simp; try with_reducible rfl)
    try simp only [Act.put, List.getElem_toArray, List.getElem_cons_succ, List.getElem_cons_zero, List.setIfInBounds_toArray, List.set_cons_zero, List.set_cons_succ]
    refine wpAnyH_take (i := 18) (v := ?_) rfl (by kernel_rfl) (by kernel_rfl) (by kernel_rfl) (fun _ _ _ h => h) (Or.inl ⟨by rfl, ?_⟩) (by assumption) ?_
    rotate_left
    ·(intro w' hS; (try dsimp only at hS); go_simp; try with_reducible rfl)
    try simp only [Act.put, List.getElem_toArray, List.getElem_cons_succ, List.getElem_cons_zero, List.setIfInBounds_toArray, List.set_cons_zero, List.set_cons_succ]
    refine wpAnyH_take (i := 19) (v := ?_) rfl (by kernel_rfl) (by kernel_rfl) (by kernel_rfl) (fun _ _ _ h => h) (Or.inl ⟨by rfl, ?_⟩) (by assumption) ?_
    rotate_left
    ·(intro w' hS; (try dsimp only at hS); go_simp; try with_reducible rfl)
    try simp only [Act.put, List.getElem_toArray, List.getElem_cons_succ, List.getElem_cons_zero, List.setIfInBounds_toArray, List.set_cons_zero, List.set_cons_succ]
    refine wpAnyH_take (i := 20) (v := ?_) rfl (by kernel_rfl) (by kernel_rfl) (by kernel_rfl) (fun _ _ _ h => h) (Or.inl ⟨by rfl, ?_⟩) (by assumption) ?_
    rotate_left
    ·(intro w' hS; (try dsimp only at hS); go_simp; try with_reducible rfl)
    try simp only [Act.put, List.getElem_toArray, List.getElem_cons_succ, List.getElem_cons_zero, List.setIfInBounds_toArray, List.set_cons_zero, List.set_cons_succ]
    refine wpAnyH_take (i := 21) (v := ?_) rfl (by kernel_rfl) (by kernel_rfl) (by kernel_rfl) (fun _ _ _ h => h) (Or.inl ⟨by rfl, ?_⟩) (by assumption) ?_
    rotate_left
    ·(intro w' hS; (try dsimp only at hS); go_simp; try with_reducible rfl)
    try simp only [Act.put, List.getElem_toArray, List.getElem_cons_succ, List.getElem_cons_zero, List.setIfInBounds_toArray, List.set_cons_zero, List.set_cons_succ]
    refine wpAnyH_done (by kernel_rfl) ?_ _
    refine NoPanic.normal ?_
    clear hHeld
    go_wp2
    go_roundw
    case rel => exact ⟨k + 1, by omega, by rw [← e5], by go_num, HK1⟩
    case measure => (simp [intOf] <;> omega)
   ·obtain rfl : k = 81 := by omega
    obtain ⟨dd, hdd⟩ : ∃ dd, D 81 = dd := ⟨_, rfl⟩
    rw [hdd] at HE HDs ⊢
    have hle := HDs.out
    have hv := Lib.hid (show wrap64 (((dd : Nat) : Int) / 4) = ((dd : Nat) : Int) / 4 by unfold wrap64; omega)
    clear hle hdd
    go_wp2
    go_ret
    exact ⟨_, rfl, by rw [hv.out]; exact HE.out, HK.out.bel⟩
end Go.Proofs.Ytmajllgfmclcoaa.Jn
