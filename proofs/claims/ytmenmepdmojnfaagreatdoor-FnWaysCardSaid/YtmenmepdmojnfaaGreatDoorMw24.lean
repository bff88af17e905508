/- DefD, DefC, DefM, FlmF, FlmC, Lnk, Dst, WyD, Fts, Fnd in one text. -/
import Derived.Test.YtmenmepdmojnfaaGreatDoorMw05
import Derived.Test.YtmenmepdmojnfaaGreatDoorMw01
import Derived.Test.YtmenmepdmojnfaaGreatDoorMw07
import Derived.BigQuiet
import Derived.Deep.QuietTactic
import Derived.OwnWalk
import Derived.Laws.OwnMore
import Derived.Test.YtmenmepdmojnfaaGreatDoorMw23
import Derived.Test.YtmenmepdmojnfaaGreatDoorMw19
import Derived.Test.YtmenmepdmojnfaaGreatDoorMw17
import Derived.Test.YtmenmepdmojnfaaGreatDoorMw18
import Derived.Test.YtmenmepdmojnfaaGreatDoorMw16
import Derived.Test.YtmenmepdmojnfaaGreatDoorMw08
import Derived.Deep.LoopGhost
import Derived.Deep.RegionHeld3
import Derived.Deep.Cut
import Derived.Lib.Hide
import Derived.Lib.SmallJoins
import Derived.Laws.AppendOwn

namespace Go.Proofs.YtmenmepdmojnfaaGreatDoor.Def
set_option linter.unusedVariables false
set_option linter.unusedSimpArgs false
open Go.RowKit Go.Joins

theorem getD_at {L : List (Int × Int)} {k : Nat} (hk : k < L.length) : L.getD k (0, 0) = L[k] := by simp [List.getD, hk]
end Go.Proofs.YtmenmepdmojnfaaGreatDoor.Def

namespace Go.Proofs.YtmenmepdmojnfaaGreatDoor.Def
set_option linter.unusedVariables false
set_option linter.unusedSimpArgs false
set_option maxRecDepth 100000
open Go.RowKit Go.Joins
open Go.Proofs.YtmenmepdmojnfaaGreatDoor.Reg hiding RC rc_start

def RowK (w : World) (B : Nat) (A : Option Addr) (L : List (Int × Int)) : Prop :=
 ∃ b off : Nat, (0 < L.length → A = some ⟨b, off, none⟩ ∧ b < B) ∧ ∀ j p, L[j]? = some p → w.cell? ⟨b, off + j * 2, none⟩ = some (.int .i64 p.1) ∧ w.cell? ⟨b, off + j * 2 + 1, none⟩ = some (.int .i64 p.2)
theorem RowK.below {w w' : World} {B B' : Nat} {A : Option Addr} {L : List (Int × Int)} (h : RowK w B A L) (hb : Below B' w w') (hB : B ≤ B') : RowK w' B A L := by
 obtain ⟨b, off, h1, h2⟩ := h
 refine ⟨b, off, h1, fun j p hp => ?_⟩
 have hl : 0 < L.length := by
  rcases Nat.eq_zero_or_pos L.length with h0 | h0
  ·rw [List.eq_nil_of_length_eq_zero h0] at hp; simp at hp
  ·exact h0
 have hlt : b < B' := Nat.lt_of_lt_of_le (h1 hl).2 hB
 rw [hb.cell (p := ⟨b, off + j * 2, none⟩) hlt, hb.cell (p := ⟨b, off + j * 2 + 1, none⟩) hlt]
 exact h2 j p hp
end Go.Proofs.YtmenmepdmojnfaaGreatDoor.Def

namespace Go.Proofs.YtmenmepdmojnfaaGreatDoor.Def
set_option linter.unusedVariables false
set_option linter.unusedSimpArgs false
set_option maxRecDepth 100000
open Go.RowKit Go.Proofs.YtmenmepdmojnfaaGreatDoor.Cels Go.Joins
open Go.Proofs.YtmenmepdmojnfaaGreatDoor.Reg hiding RC rc_start

theorem RowK.mono {w : World} {B B' : Nat} {A : Option Addr} {L : List (Int × Int)} (h : RowK w B A L) (hB : B ≤ B') : RowK w B' A L := by
 obtain ⟨b, off, h1, h2⟩ := h
 exact ⟨b, off, fun h0 => ⟨(h1 h0).1, by have := (h1 h0).2; omega⟩, h2⟩
theorem rowK_own {w : World} {base e n cap : Nat} {A : Option Addr} {L : List (Int × Int)} (h : w.ownsRow base e 2 (.slice A n cap) n (rowC L)) : RowK w w.heap.size A L := rowC_own h
end Go.Proofs.YtmenmepdmojnfaaGreatDoor.Def

namespace Go.Proofs.YtmenmepdmojnfaaGreatDoor.Flp
set_option linter.unusedVariables false
set_option linter.unusedSimpArgs false
set_option maxRecDepth 100000
open Go.RowKit Go.Proofs.YtmenmepdmojnfaaGreatDoor.Dms Go.Proofs.YtmenmepdmojnfaaGreatDoor.Til Go.Joins
open Go.Proofs.YtmenmepdmojnfaaGreatDoor.Reg (own_below own_base)
open Go.Proofs.YtmenmepdmojnfaaGreatDoor.Def (RowK)

theorem flip_len (L : List Dm) (x y : Int) : (flipL L x y).length ≤ L.length := by
 by_cases hk : kindN L x y = 0
 ·rw [flip_no hk]; exact Nat.le_refl _
 ·rw [flip_yes hk]
  have h := oth_two (kind_is hk).2
  have := sortM_length (pr1 x y (!decide (kindN L x y = 2)) :: pr2 x y (!decide (kindN L x y = 2)) :: oth L x y (decide (kindN L x y = 2)))
  unfold turn
  simp only [List.length_cons] at this
  omega
def allL (L : List Dm) (C : List (Int × Int)) : List Dm := (flipAllR L C).getD L
def allB (L : List Dm) (C : List (Int × Int)) : Bool := (flipAllR L C).isSome
theorem all_yes {L M : List Dm} {C : List (Int × Int)} (h : C.length ≤ 200) (e : allF L C = some M) : allL L C = M ∧ allB L C = true := by
 unfold allL allB flipAllR; rw [if_neg (by omega), e]; exact ⟨rfl, rfl⟩
theorem all_no {L : List Dm} {C : List (Int × Int)} (h : 200 < C.length ∨ allF L C = none) : allL L C = L ∧ allB L C = false := by
 unfold allL allB flipAllR
 by_cases q : 200 < C.length
 ·rw [if_pos q]; exact ⟨rfl, rfl⟩
 ·rw [if_neg q]
  rcases h with h | h
  ·exact absurd h q
  ·rw [h]; exact ⟨rfl, rfl⟩
theorem allF_at {M : List Dm} {C : List (Int × Int)} {k : Nat} (hk : k < C.length) : allF M (C.drop k) = if canB M C[k].1 C[k].2 then allF (flipL M C[k].1 C[k].2) (C.drop (k + 1)) else none := by
 rw [List.drop_eq_getElem_cons hk]; rfl
set_option maxHeartbeats 4000000 in
theorem sFlipAll (w : World) (A : Option Addr) (n cap B : Nat) (L : List Dm) (hL : L.length = n) (hn : (n : Int) ≤ 1048576) (h : RowM w B A L) (hB : B ≤ w.heap.size) (A2 : Option Addr) (m cap2 B2 : Nat) (C : List (Int × Int)) (hC : C.length = m) (hm : (m : Int) ≤ 1048576) (h2 : Go.Proofs.YtmenmepdmojnfaaGreatDoor.Def.RowK w B2 A2 C) (hB2 : B2 ≤ w.heap.size) :
  Calls Tryz.prog 15 #[.slice A n cap, .slice A2 m cap2] w (FlPost (allL L C) (allB L C) w) := by
 have HR := Lib.hid (fun W (hb : Below w.heap.size w W) => h.below hb hB)
 obtain ⟨b, off, hA, hc⟩ := h2
 have HA := Lib.hid (fun (h0 : 0 < m) => hA (by omega))
 have HC := Lib.hid hc
 have HLn := Lib.hid hL
 have HCn := Lib.hid hC
 have HY := Lib.hid (fun M h e => all_yes (L := L) (M := M) (C := C) h e)
 have HN := Lib.hid (fun h => all_no (L := L) (C := C) h)
 have HM := Lib.hid (World.ownsRow_made (base := w.heap.size) (e := 73) (size := 3) w #[] 0 (Nat.le_refl _) (by unfold maxLen; omega) rfl)
 have HB1 := Lib.hid (below_alloc1 w (.cells #[] 73))
 generalize allL L C = R at HY HN ⊢
 generalize allB L C = r at HY HN ⊢
 clear hA hc hL hC h
 go_enter Tryz.func15, Tryz.ntmps15
 go_wp2_with (first
  | (at_builtin; refine wpList_copy _ rfl _ _ rfl w.heap.size w.heap.size 0 rfl HM.out A n cap _ L HLn.out hn rfl (HR.out _ HB1.out) (by simp) ?_; intro g' c' w2 hc hown hbw))
 have HO := Lib.hid hown
 have HB2 := Lib.hid (hbw _ _ HB1.out (by simp) (Nat.le_refl _))
 clear hown hbw HM HB1
 go_wp2_with fail
 go_loopw [6, 7] (fun s i wr => ∃ (k : Nat) (M : List Dm) (Ag : Option Addr) (cg : Nat), k ≤ m ∧ i = .int .i64 k ∧ s = .slice Ag M.length cg ∧ M.length ≤ cg ∧ M.length ≤ n ∧ Hid (allF L C = allF M (C.drop k)) ∧ (0 < k → m ≤ 200) ∧ wr.ownsRow w.heap.size 73 3 (.slice Ag M.length cg) M.length (rowM M) ∧ Below w.heap.size w wr) (fun _ i _ => m - (intOf i).toNat)
 case atStart => exact ⟨0, L, some ⟨g', 0, none⟩, c', Nat.zero_le _, rfl, by rw [HLn.out], by rw [HLn.out]; exact hc, by rw [HLn.out]; exact Nat.le_refl _, Lib.hid (by rw [List.drop_zero]), fun h => by omega, by rw [HLn.out]; exact HO.out, HB2.out⟩
 case round =>
  clear HO HB2 hc
  obtain ⟨k, M, Ag, cg, hk, rfl, rfl, hcg, hMn, HF, h200, hown, hb⟩ := hrel
  have hbs := hb.size
  by_cases hlt : k < m
  ·have hkC : k < C.length := by rw [HCn.out]; exact hlt
   obtain ⟨rfl, hbB⟩ := HA.out (by omega)
   obtain ⟨e0, e1⟩ := HC.out k C[k] (List.getElem?_eq_getElem hkC)
   have d0 := (hb.cell (p := ⟨b, off + k * 2, none⟩) (by show b < _; omega)).trans e0
   have d1 := (hb.cell (p := ⟨b, off + k * 2 + 1, none⟩) (by show b < _; omega)).trans e1
   have HS := Lib.hid (allF_at (M := M) hkC)
   have HFl := Lib.hid (sFlipAt wr Ag M.length cg wr.heap.size M rfl (by omega) (rowM_own hown) (Nat.le_refl _) C[k].1 C[k].2)
   have hfl := flip_len M C[k].1 C[k].2
   generalize C[k] = p at d0 d1 HS HFl hfl
   obtain ⟨x, y⟩ := p
   simp only at d0 d1 HS HFl hfl
   generalize canB M x y = ok at HFl HS
   generalize flipL M x y = M2 at HFl HS hfl
   have HBw := Lib.hid hb
   clear e0 e1 hown hb
   go_wp2_with fail
   refine HFl.out.mono ?_
   rintro e w3 ⟨A3, c3, rfl, hc3, hown3, hb3⟩
   have hb3' := HBw.out.trans (hb3.mono hbs)
   have HO3 := Lib.hid (own_base hown3 hbs)
   have HB3 := Lib.hid hb3'
   have hs3 := hb3'.size
   have HM3 := Lib.hid (World.ownsRow_made (base := w3.heap.size) (e := 73) (size := 3) w3 #[] 0 (Nat.le_refl _) (by unfold maxLen; omega) rfl)
   clear hown3 hb3 HBw HFl hb3' d0 d1
   by_cases hgo : ok = true ∧ m ≤ 200
   ·obtain ⟨rfl, hm2⟩ := hgo
    have hS := HS.out
    rw [if_pos rfl] at hS
    have HF2 := Lib.hid (HF.out.trans hS)
    have hd : decide ((200 : Int) < (m : Int)) = false := decide_eq_false (by omega)
    clear hS HS HF HM3
    go_wp2
    go_roundw
    case rel => exact ⟨k + 1, M2, A3, c3, by omega, by go_num, rfl, hc3, by omega, HF2, fun _ => hm2, HO3.out, HB3.out⟩
    case measure => (simp [intOf] <;> omega)
   ·have hN : R = L ∧ r = false := HN.out (by
     rcases Nat.lt_or_ge 200 m with q | q
     ·exact .inl (by rw [HCn.out]; exact q)
     ·right
      have hS := HS.out
      cases ok with
      | true => exact absurd ⟨rfl, q⟩ hgo
      | false => rw [if_neg (by simp)] at hS; exact HF.out.trans hS)
    obtain ⟨rfl, rfl⟩ := hN
    clear HS HF HO3
    cases ok with
    | false =>
     clear hgo
     go_wp2_with (first
      | (at_builtin; refine wpList_copy _ rfl _ _ rfl w3.heap.size w3.heap.size 0 rfl HM3.out A n cap _ R HLn.out hn rfl (HR.out _ (HB3.out.alloc hs3 _)) (by simp) ?_; intro g4 c4 w4 hc4 hown4 hbw4))
     have HO := Lib.hid (own_base hown4 hs3)
     have HB2 := Lib.hid (hbw4 _ _ (HB3.out.alloc hs3 _) (by simp; omega) hs3)
     clear hown4 hbw4
     go_wp2
     refine bodyPost_ret (v := .tuple #[.slice (some ⟨g4, 0, none⟩) n c4, .bool false]) (by simp [results, Tryz.results15, go_sem]) rfl ?_
     rw [← HLn.out] at hc4 HO ⊢
     exact ⟨_, c4, rfl, hc4, HO.out, HB2.out⟩
    | true =>
     have hm2 : ¬ (m : Int) ≤ 200 := fun q => hgo ⟨rfl, by omega⟩
     clear hgo
     go_wp2_with (first
      | (at_builtin; refine wpList_copy _ rfl _ _ rfl w3.heap.size w3.heap.size 0 rfl HM3.out A n cap _ R HLn.out hn rfl (HR.out _ (HB3.out.alloc hs3 _)) (by simp) ?_; intro g4 c4 w4 hc4 hown4 hbw4))
     have HO := Lib.hid (own_base hown4 hs3)
     have HB2 := Lib.hid (hbw4 _ _ (HB3.out.alloc hs3 _) (by simp; omega) hs3)
     clear hown4 hbw4
     go_wp2
     refine bodyPost_ret (v := .tuple #[.slice (some ⟨g4, 0, none⟩) n c4, .bool false]) (by simp [results, Tryz.results15, go_sem]) rfl ?_
     rw [← HLn.out] at hc4 HO ⊢
     exact ⟨_, c4, rfl, hc4, HO.out, HB2.out⟩
  ·obtain rfl : k = m := by omega
   have hE : R = M ∧ r = true := HY.out M (by
    have := HCn.out
    rcases Nat.eq_zero_or_pos k with q | q
    ·omega
    ·have := h200 q; omega) (by rw [HF.out, List.drop_of_length_le (by rw [HCn.out]; exact Nat.le_refl _)]; rfl)
   obtain ⟨rfl, rfl⟩ := hE
   have HO := Lib.hid hown
   clear hown
   go_wp2
   exact bodyPost_ret (v := .tuple #[.slice Ag R.length cg, .bool true]) (by simp [results, Tryz.results15, go_sem]) rfl ⟨Ag, cg, rfl, hcg, HO.out, hb⟩
end Go.Proofs.YtmenmepdmojnfaaGreatDoor.Flp

namespace Go.Proofs.YtmenmepdmojnfaaGreatDoor.Flp
set_option linter.unusedVariables false
set_option linter.unusedSimpArgs false
set_option maxRecDepth 100000
open Go.RowKit Go.Proofs.YtmenmepdmojnfaaGreatDoor.Dms Go.Joins
open Go.Proofs.YtmenmepdmojnfaaGreatDoor.Reg (at_nat own_below own_base)

def flipsTo (L : List Dm) (k : Nat) : List (Int × Int) := ((List.range k).filter fun k => canB L ((k % 8 : Nat) : Int) ((k / 8 : Nat) : Int)).map fun k => (((k % 8 : Nat) : Int), ((k / 8 : Nat) : Int))
theorem flipsTo_all (L : List Dm) : flipsTo L 64 = flipsR L := rfl
theorem flipsTo_length (L : List Dm) (k : Nat) : (flipsTo L k).length ≤ k := by
 unfold flipsTo; rw [List.length_map]; exact Nat.le_trans (List.length_filter_le _ _) (by rw [List.length_range]; exact Nat.le_refl _)
theorem flipsTo_yes {L : List Dm} {k : Nat} (h : canB L ((k % 8 : Nat) : Int) ((k / 8 : Nat) : Int) = true) : flipsTo L (k + 1) = flipsTo L k ++ [(((k % 8 : Nat) : Int), ((k / 8 : Nat) : Int))] := by
 unfold flipsTo; rw [List.range_succ, List.filter_append, List.map_append, List.filter_cons, if_pos h]; rfl
theorem flipsTo_no {L : List Dm} {k : Nat} (h : canB L ((k % 8 : Nat) : Int) ((k / 8 : Nat) : Int) = false) : flipsTo L (k + 1) = flipsTo L k := by
 unfold flipsTo; rw [List.range_succ, List.filter_append, List.map_append, List.filter_cons, if_neg (by rw [h]; simp), List.filter_nil, List.map_nil, List.append_nil]
end Go.Proofs.YtmenmepdmojnfaaGreatDoor.Flp

namespace Go.Proofs.YtmenmepdmojnfaaGreatDoor.Wg
set_option linter.unusedVariables false
set_option linter.unusedSimpArgs false
set_option maxRecDepth 100000
open Go.RowKit Go.Proofs.YtmenmepdmojnfaaGreatDoor.Dms Go.Proofs.YtmenmepdmojnfaaGreatDoor.Flp Go.Joins
open Go.Proofs.YtmenmepdmojnfaaGreatDoor.Sam (sameD sSame)
open Go.Proofs.YtmenmepdmojnfaaGreatDoor.Lis (append_any)
open Go.Proofs.YtmenmepdmojnfaaGreatDoor.Reg (own_below own_base intInfo)

def nxtTo (all : List (List Dm)) (X : List Dm) (j : Nat) : List Nat := (List.range j).filter fun t => decide (all[t]? = some X)
theorem nxtTo_all (all : List (List Dm)) (X : List Dm) : nxtTo all X all.length = nxt all X := rfl
theorem nxtTo_length (all : List (List Dm)) (X : List Dm) (j : Nat) : (nxtTo all X j).length ≤ j := by
 unfold nxtTo
 have := List.length_filter_le (fun t => decide (all[t]? = some X)) (List.range j)
 rwa [List.length_range] at this
def lnkTo (all : List (List Dm)) (L : List Dm) (i : Nat) : List Nat := ((flipsR L).take i).flatMap fun c => nxt all (flipL L c.1 c.2)
theorem lnkTo_step {all : List (List Dm)} {L : List Dm} {i : Nat} (hi : i < (flipsR L).length) : lnkTo all L (i + 1) = lnkTo all L i ++ nxt all (flipL L (flipsR L)[i].1 (flipsR L)[i].2) := by
 unfold lnkTo
 rw [List.take_succ_eq_append_getElem hi, List.flatMap_append]
 simp
theorem lnkTo_all {all : List (List Dm)} {k : Nat} (hk : k < all.length) : lnkTo all all[k] (flipsR all[k]).length = lnk all k := by
 unfold lnkTo lnk
 rw [List.take_length, getD_at hk]
theorem lnkTo_length (all : List (List Dm)) (L : List Dm) : ∀ i, (lnkTo all L i).length ≤ i * all.length := by
 intro i
 induction i with
 | zero => simp [lnkTo]
 | succ i ih =>
  by_cases hi : i < (flipsR L).length
  ·rw [lnkTo_step hi, List.length_append]
   have := nxtTo_length all (flipL L (flipsR L)[i].1 (flipsR L)[i].2) all.length
   rw [nxtTo_all] at this
   rw [Nat.succ_mul]; omega
  ·unfold lnkTo at ih ⊢
   rw [List.take_of_length_le (by omega)]
   rw [List.take_of_length_le (by omega)] at ih
   rw [Nat.succ_mul]; omega

end Go.Proofs.YtmenmepdmojnfaaGreatDoor.Wg

namespace Go.Proofs.YtmenmepdmojnfaaGreatDoor.Wg
set_option linter.unusedVariables false
set_option linter.unusedSimpArgs false
set_option maxRecDepth 100000
open Go.RowKit Go.Joins
open Go.Proofs.YtmenmepdmojnfaaGreatDoor.Reg (own_below own_base intInfo)

def DsP (ls : Nat → List Nat) (m st : Nat) (w : World) (e : Ending) (w' : World) : Prop :=
 ∃ (b : Nat) (D : Nat → Int), e = .returned (.slice (some ⟨b, 0, none⟩) m m) ∧ NumR w' w.heap.size b m D ∧ (∀ v, IsD (Ed ls) st v (D v)) ∧ (∀ v, D v ≤ (m : Int)) ∧ Below w.heap.size w w'
end Go.Proofs.YtmenmepdmojnfaaGreatDoor.Wg

namespace Go.Proofs.YtmenmepdmojnfaaGreatDoor.Wg
set_option linter.unusedVariables false
set_option linter.unusedSimpArgs false
set_option maxRecDepth 100000
open Go.RowKit Go.Proofs.YtmenmepdmojnfaaGreatDoor.Dms Go.Proofs.YtmenmepdmojnfaaGreatDoor.Flp Go.Joins
open Go.Proofs.YtmenmepdmojnfaaGreatDoor.Lst (halfR_le listR listR_small listR_half sListTilings idxR idx_at idx_end sIndexOf)
open Go.Proofs.YtmenmepdmojnfaaGreatDoor.Ext (SSP halfR allR allR_ok allR_not)
open Go.Proofs.YtmenmepdmojnfaaGreatDoor.Reg hiding add_none RC rc_start

theorem idx_two (T : List (List Dm)) (M : List Dm) : (∃ (i : Nat) (hi : i < T.length), T[i] = M ∧ idxR T M = (i : Int)) ∨ ((∀ (i : Nat) (hi : i < T.length), T[i] ≠ M) ∧ idxR T M = -1) := by
 have key : ∀ n, n ≤ T.length → (∃ (i : Nat) (hi : i < T.length), T[i] = M ∧ ∀ j (hj : j < T.length), j < i → T[j] ≠ M) ∨ ∀ (i : Nat) (hi : i < T.length), i < n → T[i] ≠ M := by
  intro n
  induction n with
  | zero => intro _; exact .inr (fun i _ h => by omega)
  | succ n ih =>
   intro hn
   rcases ih (by omega) with h | h
   ·exact .inl h
   ·by_cases e : T[n] = M
    ·exact .inl ⟨n, by omega, e, fun j hj hjn => h j hj hjn⟩
    ·refine .inr (fun i hi hin => ?_)
     by_cases e2 : i = n
     ·subst e2; exact e
     ·exact h i hi (by omega)
 rcases key T.length (Nat.le_refl _) with ⟨i, hi, e, h⟩ | h
 ·exact .inl ⟨i, hi, e, idx_at hi h e⟩
 ·exact .inr ⟨fun i hi => h i hi hi, idx_end (fun j hj => h j hj hj)⟩
theorem lnk_length (T : List (List Dm)) (u : Nat) : (lnk T u).length ≤ 64 * T.length := by
 rcases Nat.lt_or_ge u T.length with h | h
 ·rw [← lnkTo_all h]
  have h1 := lnkTo_length T T[u] (flipsR T[u]).length
  have h2 := flipsTo_length T[u] 64
  rw [flipsTo_all] at h2
  exact Nat.le_trans h1 (Nat.mul_le_mul h2 (Nat.le_refl _))
 ·rw [lnk_out h]; simp
def DisR (T : List (List Dm)) (L M : List Dm) (d : Int) : Prop :=
 (∃ (i j : Nat) (hi : i < T.length) (hj : j < T.length), T[i] = L ∧ T[j] = M ∧ IsD (Ed (lnk T)) j i d) ∨ ((L ∉ T ∨ M ∉ T) ∧ d = -1)
theorem dis_no {T : List (List Dm)} {L M : List Dm} (h : (∀ (i : Nat) (hi : i < T.length), T[i] ≠ L) ∨ ∀ (i : Nat) (hi : i < T.length), T[i] ≠ M) : DisR T L M (-1) := by
 refine .inr ⟨?_, rfl⟩
 rcases h with h | h
 ·left; intro hm; obtain ⟨k, hk, e⟩ := List.getElem_of_mem hm; exact h k hk e
 ·right; intro hm; obtain ⟨k, hk, e⟩ := List.getElem_of_mem hm; exact h k hk e
def DisP (T : List (List Dm)) (L M : List Dm) (w : World) (e : Ending) (w' : World) : Prop := ∃ d : Int, e = .returned (.int .i64 d) ∧ DisR T L M d ∧ Below w.heap.size w w'
end Go.Proofs.YtmenmepdmojnfaaGreatDoor.Wg

namespace Go.Proofs.YtmenmepdmojnfaaGreatDoor.Wg
set_option linter.unusedVariables false
set_option linter.unusedSimpArgs false
open Go.RowKit Go.Proofs.YtmenmepdmojnfaaGreatDoor.Base Go.Proofs.YtmenmepdmojnfaaGreatDoor.Pure Go.Proofs.YtmenmepdmojnfaaGreatDoor.Dom Go.Proofs.YtmenmepdmojnfaaGreatDoor.Dms Go.Proofs.YtmenmepdmojnfaaGreatDoor.Til Go.Proofs.YtmenmepdmojnfaaGreatDoor.Grd Go.Proofs.YtmenmepdmojnfaaGreatDoor.Flp Go.Joins
open Go.Proofs.YtmenmepdmojnfaaGreatDoor.Lis (allT all_til)
open Go.Proofs.YtmenmepdmojnfaaGreatDoor.Ext (allR allR_ok allR_not)
open Go.Proofs.YtmenmepdmojnfaaGreatDoor.Lst (listR idxR idx_at idx_end)
open Go.Proofs.YtmenmepdmojnfaaGreatDoor.Reg (own_below own_base)

theorem til_fits {xs : List Int} {L : List Dm} (h : tilB xs L = true) : Fits L := by
 have hp : partB xs L = true := by unfold tilB at h; rw [Bool.and_eq_true] at h; exact h.1
 exact Go.Proofs.YtmenmepdmojnfaaGreatDoor.Grd.fits_ok (Grd.part_valid hp)
abbrev Ft := (Int × Int) × Nat
def ftsTo (T : List (List Dm)) (L : List Dm) (j : Nat) : List Ft := ((flipsR L).take j).map fun c => (c, idx T (flipL L c.1 c.2))
def fts (T : List (List Dm)) (L : List Dm) : List Ft := (flipsR L).map fun c => (c, idx T (flipL L c.1 c.2))
theorem ftsTo_all (T : List (List Dm)) (L : List Dm) : ftsTo T L (flipsR L).length = fts T L := by unfold ftsTo fts; rw [List.take_length]
theorem fts_length (T : List (List Dm)) (L : List Dm) : (fts T L).length = (flipsR L).length := by unfold fts; rw [List.length_map]
theorem ftsTo_step {T : List (List Dm)} {L : List Dm} {j : Nat} (h : j < (flipsR L).length) : ftsTo T L (j + 1) = ftsTo T L j ++ [((flipsR L)[j], idx T (flipL L (flipsR L)[j].1 (flipsR L)[j].2))] := by
 unfold ftsTo
 rw [List.take_succ_eq_append_getElem h, List.map_append]; rfl
theorem flips_le (L : List Dm) : (flipsR L).length ≤ 64 := by
 have h2 := flipsTo_length L 64
 rwa [flipsTo_all] at h2
structure Gd (T : List (List Dm)) : Prop where
 nd : T.Nodup
 cl : ∀ (k : Nat) (hk : k < T.length) (c : Int × Int), c ∈ flipsR T[k] → ∃ j, ∃ hj : j < T.length, T[j] = flipL T[k] c.1 c.2
 lk : ∀ (k : Nat) (hk : k < T.length), lnk T k = (fts T T[k]).map (·.2)
 sy : ∀ i j, Ed (lnk T) i j → Ed (lnk T) j i
 ft : ∀ L ∈ T, Fits L
theorem gd_nil : Gd [] := ⟨List.nodup_nil, fun k hk => by simp at hk, fun k hk => by simp at hk, (fun i j h => by
 unfold Ed at h
 rw [lnk_out (Nat.zero_le _)] at h; cases h), (fun L h => by cases h)⟩
theorem list_gd (xs : List Int) : Gd (listR xs) := by
 unfold listR
 split
 ·by_cases ho : okR xs
  ·rw [allR_ok ho]
   exact ⟨allT_nodup xs, fun k hk c hc => by obtain ⟨hj, e, _⟩ := flip_at ho hk hc; exact ⟨_, hj, e⟩, fun k hk => by
    rw [lnk_map ho hk]; unfold fts; rw [List.map_map]; rfl, ed_symm ho, fun L hL => til_fits (all_til ho L hL)⟩
  ·rw [allR_not ho]; exact gd_nil
 ·exact gd_nil
theorem idxR_of {T : List (List Dm)} (hn : T.Nodup) {j : Nat} (hj : j < T.length) : idxR T T[j] = (j : Int) :=
 idx_at hj (fun i hi hij e => by have := (List.getElem_inj hn).1 e; omega) rfl
theorem Gd.idx {T : List (List Dm)} (g : Gd T) {k : Nat} (hk : k < T.length) {c : Int × Int} (hc : c ∈ flipsR T[k]) :
  idx T (flipL T[k] c.1 c.2) < T.length ∧ idxR T (flipL T[k] c.1 c.2) = (Wg.idx T (flipL T[k] c.1 c.2) : Int) := by
 obtain ⟨j, hj, e⟩ := g.cl k hk c hc
 rw [← e, idx_one g.nd hj, idxR_of g.nd hj]
 exact ⟨hj, rfl⟩
theorem Gd.lt {T : List (List Dm)} (g : Gd T) {k : Nat} (hk : k < T.length) : ∀ p ∈ fts T T[k], p.2 < T.length := by
 intro p hp
 unfold fts at hp
 obtain ⟨c, hc, rfl⟩ := List.mem_map.1 hp
 exact (g.idx hk hc).1
def rowT (l : List Ft) : List Value := l.flatMap fun p => [.int .i64 p.1.1, .int .i64 p.1.2, .int .i64 (p.2 : Int)]
theorem rowT_cons (p : Ft) (l : List Ft) : rowT (p :: l) = .int .i64 p.1.1 :: .int .i64 p.1.2 :: .int .i64 (p.2 : Int) :: rowT l := rfl
theorem rowT_snoc (l : List Ft) (p : Ft) : rowT (l ++ [p]) = rowT l ++ [.int .i64 p.1.1, .int .i64 p.1.2, .int .i64 (p.2 : Int)] := by unfold rowT; simp
theorem rowT_length (l : List Ft) : (rowT l).length = l.length * 3 := by
 induction l with
 | nil => rfl
 | cons p l ih => rw [rowT_cons]; simp only [List.length_cons, ih]; omega
theorem rowT_at (L : List Ft) : ∀ (j : Nat) (d : Ft), L[j]? = some d → (rowT L)[j * 3]? = some (.int .i64 d.1.1) ∧ (rowT L)[j * 3 + 1]? = some (.int .i64 d.1.2) ∧ (rowT L)[j * 3 + 2]? = some (.int .i64 (d.2 : Int)) := by
 induction L with
 | nil => intro j d h; simp at h
 | cons q L ih =>
  intro j d h
  rw [rowT_cons]
  cases j with
  | zero => simp at h; subst h; exact ⟨rfl, rfl, rfl⟩
  | succ j =>
   have h' : L[j]? = some d := by simpa using h
   rw [show (j + 1) * 3 = j * 3 + 1 + 1 + 1 from by omega]
   obtain ⟨a, b, c⟩ := ih j d h'
   exact ⟨by simpa using a, by simpa using b, by simpa using c⟩
def RdT (w : World) (B : Nat) (A : Option Addr) (l : List Ft) : Prop :=
 ∃ b : Nat, (0 < l.length → A = some ⟨b, 0, none⟩ ∧ b < B) ∧ ∀ (j : Nat) (hj : j < l.length),
  w.cell? ⟨b, j * 3, none⟩ = some (.int .i64 l[j].1.1) ∧ w.cell? ⟨b, j * 3 + 1, none⟩ = some (.int .i64 l[j].1.2) ∧ w.cell? ⟨b, j * 3 + 2, none⟩ = some (.int .i64 ((l[j].2 : Nat) : Int))
theorem RdT.below {w w' : World} {B B' : Nat} {A : Option Addr} {l : List Ft} (h : RdT w B A l) (hb : Below B' w w') (hB : B ≤ B') : RdT w' B A l := by
 obtain ⟨b, h1, h2⟩ := h
 refine ⟨b, h1, fun j hj => ?_⟩
 have hlt : b < B' := by have := (h1 (by omega)).2; omega
 rw [hb.cell (p := ⟨b, j * 3, none⟩) hlt, hb.cell (p := ⟨b, j * 3 + 1, none⟩) hlt, hb.cell (p := ⟨b, j * 3 + 2, none⟩) hlt]
 exact h2 j hj
theorem RdT.mono {w : World} {B B' : Nat} {A : Option Addr} {l : List Ft} (h : RdT w B A l) (hB : B ≤ B') : RdT w B' A l := by
 obtain ⟨b, h1, h2⟩ := h
 exact ⟨b, fun h0 => ⟨(h1 h0).1, by have := (h1 h0).2; omega⟩, h2⟩
theorem rdT_own {w : World} {base e n cap : Nat} {A : Option Addr} {L : List Ft} (h : w.ownsRow base e 3 (.slice A n cap) n (rowT L)) : RdT w w.heap.size A L := by
 have hn : L.length = n := by have := h.1; rw [rowT_length] at this; omega
 by_cases h0 : L.length = 0
 ·exact ⟨0, fun h => by omega, fun j hj => by omega⟩
 ·obtain ⟨g, c, hv, _, hlt⟩ := h.form (by omega)
  injection hv with hA
  subst hA
  refine ⟨g, fun _ => ⟨rfl, hlt⟩, fun j hj => ?_⟩
  obtain ⟨h1, h2, h3⟩ := rowT_at L j _ (List.getElem?_eq_getElem hj)
  have c1 := h.cells (g := g) rfl _ _ h1
  have c2 := h.cells (g := g) rfl _ _ h2
  have c3 := h.cells (g := g) rfl _ _ h3
  rw [Base.add_plain] at c1 c2 c3
  exact ⟨c1, c2, c3⟩
end Go.Proofs.YtmenmepdmojnfaaGreatDoor.Wg

namespace Go.Proofs.YtmenmepdmojnfaaGreatDoor.Wg
set_option linter.unusedVariables false
set_option linter.unusedSimpArgs false
set_option maxRecDepth 100000
open Go.RowKit Go.Proofs.YtmenmepdmojnfaaGreatDoor.Cell Go.Proofs.YtmenmepdmojnfaaGreatDoor.Dms Go.Proofs.YtmenmepdmojnfaaGreatDoor.Dss Go.Joins
open Go.Proofs.YtmenmepdmojnfaaGreatDoor.Sam (sameD iSame)
open Go.Proofs.YtmenmepdmojnfaaGreatDoor.Lst (listR idxR idx_at idx_end)

def Bx (W : World) (q : Nat) (v : Value) : Prop := q < W.heap.size ∧ W.cell? ⟨q, 0, none⟩ = some v
theorem Bx.on {W W' : World} {q : Nat} {v : Value} (h : Bx W q v) (hb : Below W.heap.size W W') : Bx W' q v := ⟨Nat.lt_of_lt_of_le h.1 hb.size, (hb.cell (p := ⟨q, 0, none⟩) h.1).trans h.2⟩
theorem Bx.new (W : World) (v : Value) (t : TypeId) : Bx (W.alloc (.cells #[v] t)) W.heap.size v := ⟨by simp, by
 unfold World.cell?
 rw [show (W.alloc (.cells #[v] t)).heap[(⟨W.heap.size, 0, none⟩ : Addr).block]? = some (.cells #[v] t) from heap_alloc_new W _]; rfl⟩
theorem rowSS_up {w : World} {B B' : Nat} {A : Option Addr} {m h : Nat} {T : List (List Dm)} (k : RowSS w B A m h T) (hB : B ≤ B') : RowSS w B' A m h T := by
 obtain ⟨b, S, s1, s2, s3⟩ := k
 exact ⟨b, S, s1, fun h0 => ⟨(s2 h0).1, Nat.lt_of_lt_of_le (s2 h0).2 hB⟩, fun i s x hs hx => ⟨(s3 i s x hs hx).1, (s3 i s x hs hx).2.mono hB⟩⟩
set_option maxHeartbeats 1000000 in
theorem iFind1 (W : World) (q : Nat) (A : Option Addr) (n c B : Nat) (L : List Dm) (hL : L.length = n) (hn : (n : Int) ≤ 9223372036854775807) (h : RowM W B A L) (hB : B ≤ W.heap.size)
  (A' : Option Addr) (n' c' B' : Nat) (M : List Dm) (hM : M.length = n') (hn' : (n' : Int) ≤ 9223372036854775807) (h' : RowM W B' A' M) (hB' : B' ≤ W.heap.size) (hq : Bx W q (.slice A' n' c')) :
  Calls Tryz.prog 65 #[.slice A n c, .pointer (some ⟨q, 0, none⟩)] W (Bol (sameD L M) W) := by
 have HS := Lib.hid (iSame W A A' n n' c c' B B' L M hL hM hn hn' h h' hB hB')
 have cq := hq.2
 generalize sameD L M = r at HS ⊢
 clear hL hn h hB hM hn' h' hB' hq
 go_enter Tryz.func65, Tryz.ntmps65
 go_wp2_with fail
 refine HS.out.mono ?_
 rintro e w1 ⟨rfl, hb⟩
 go_wp2
 go_ret
 exact ⟨rfl, hb⟩
set_option maxHeartbeats 2000000 in
theorem iIdxT (w : World) (A : Option Addr) (m cap B h : Nat) (T : List (List Dm)) (hT : T.length = m) (hm : m ≤ 300) (hh : h ≤ 32) (hall : ∀ L ∈ T, L.length = h) (hr : RowSS w B A m h T) (hB : B ≤ w.heap.size)
  (q : Nat) (A' : Option Addr) (n' c' B' : Nat) (M : List Dm) (hM : M.length = n') (hn' : (n' : Int) ≤ 9223372036854775807) (h' : RowM w B' A' M) (hB' : B' ≤ w.heap.size) (hq : Bx w q (.slice A' n' c')) :
  Calls Tryz.prog 64 #[.slice A m cap, .func (.func 65) #[] #[.pointer (some ⟨q, 0, none⟩)]] w (Num (idxR T M) w) := by
 have HSm := Lib.hid (fun (W : World) (k : Nat) (hk : k < T.length) (a : Option Addr) (c : Nat) (hr : RowM W B a T[k]) (hb : Below w.heap.size w W) => iFind1 W q a h c B T[k] (hall _ (List.getElem_mem hk)) (by omega) hr (by have := hb.size; omega) A' n' c' B' M hM hn' (h'.below hb hB') (by have := hb.size; omega) (hq.on hb))
 have HEnd := Lib.hid (fun hd => idx_end (T := T) (L := M) hd)
 have HAt := Lib.hid (fun k hk hd he => idx_at (T := T) (L := M) (k := k) hk hd he)
 have HM := Lib.hid hT
 obtain ⟨b, S, s1, s2, s3⟩ := hr
 have H1 := Lib.hid s1
 have H2 := Lib.hid s2
 have H3 := Lib.hid s3
 have HB := Lib.hid hB
 generalize idxR T M = r at HEnd HAt ⊢
 clear hT hall hB hM hn' h' hB' hq s1 s2 s3
 go_enter Tryz.func64, Tryz.ntmps64
 go_wp2_with fail
 go_loopw [5, 8] (fun _ i wr => ∃ k : Nat, k ≤ m ∧ i = .int .i64 k ∧ Below w.heap.size w wr ∧ Hid (∀ j (hj : j < T.length), j < k → T[j] ≠ M)) (fun _ i _ => m - (intOf i).toNat)
 case atStart => exact ⟨0, Nat.zero_le _, rfl, Below.refl _ _, Lib.hid (fun j _ h => by omega)⟩
 case round =>
  obtain ⟨k, hk, rfl, hb, hne⟩ := hrel
  by_cases hlt : k < m
  ·have hkT : k < T.length := by rw [HM.out]; exact hlt
   obtain ⟨rfl, hbl⟩ := H2.out (by omega)
   have hkS : k < S.length := by rw [H1.out]; exact hkT
   obtain ⟨c1, c2⟩ := H3.out k S[k] T[k] (List.getElem?_eq_getElem hkS) (List.getElem?_eq_getElem hkT)
   have c1' := (hb.cell (p := ⟨b, k, none⟩) (by show b < _; have := HB.out; omega)).trans c1
   have HSk := Lib.hid (HSm.out wr k hkT S[k].1 S[k].2 (c2.below hb HB.out) hb)
   have HAk := Lib.hid (fun he => HAt.out k hkT hne.out he)
   have HNk := Lib.hid (show T[k] ≠ M → Hid (∀ j (hj : j < T.length), j < k + 1 → T[j] ≠ M) from fun hh => Lib.hid (fun j hj h => by
    by_cases q : j = k
    ·subst q; exact hh
    ·exact hne.out j hj (by omega)))
   generalize S[k].1 = a at c1' HSk
   generalize S[k].2 = c at c1' HSk
   clear c1 c2 hkS
   obtain ⟨p, hp⟩ : ∃ p, p = sameD T[k] M := ⟨_, rfl⟩
   rw [← hp] at HSk
   have HQ := Lib.hid hp
   have HBw := Lib.hid hb
   have hkn : (k : Int) < (m : Int) := by omega
   clear hp hne hb
   go_wp2_with fail
   refine HSk.out.mono ?_
   rintro e w2 ⟨rfl, hb2⟩
   have hb3 := HBw.out.trans (hb2.mono HBw.out.size)
   clear HSk hb2 c1'
   cases p with
   | true =>
    have hr := HAk.out (by have := HQ.out; unfold sameD at this; exact of_decide_eq_true this.symm)
    have HR2 := Lib.hid hr
    clear hr HAk HNk
    go_wp2
    go_ret
    exact mkNum HR2.out.symm hb3
   | false =>
    have hn2 := HNk.out (by have := HQ.out; unfold sameD at this; exact of_decide_eq_false this.symm)
    clear HAk HNk HQ
    go_wp2
    go_roundw
    case rel => exact ⟨k + 1, by omega, by go_num, hb3, hn2⟩
    case measure => (simp [intOf] <;> omega)
  ·obtain rfl : k = m := by omega
   have hr := HEnd.out (fun j hj => hne.out j hj (by have := HM.out; omega))
   have HR2 := Lib.hid hr
   clear hr
   go_wp2
   go_ret
   exact mkNum HR2.out.symm hb
set_option maxHeartbeats 1000000 in
theorem iFind (w : World) (A : Option Addr) (m cap B h : Nat) (T : List (List Dm)) (hT : T.length = m) (hm : m ≤ 300) (hh : h ≤ 32) (hall : ∀ L ∈ T, L.length = h) (hr : RowSS w B A m h T) (hB : B ≤ w.heap.size)
  (A' : Option Addr) (n' c' B' : Nat) (M : List Dm) (hM : M.length = n') (hn' : (n' : Int) ≤ 9223372036854775807) (h' : RowM w B' A' M) (hB' : B' ≤ w.heap.size) :
  Calls Tryz.prog 41 #[.slice A m cap, .slice A' n' c'] w (Num (idxR T M) w) := by
 have HS := Lib.hid (below_alloc1 w (.cells #[.slice A' n' c'] 27))
 have HC := Lib.hid (iIdxT (w.alloc (.cells #[.slice A' n' c'] 27)) A m cap B h T hT hm hh hall (hr.below hT HS.out hB) (by simp; omega) w.heap.size A' n' c' B' M hM hn' (h'.below HS.out hB') (by simp; omega) (Bx.new w _ _))
 generalize idxR T M = r at HC ⊢
 clear hT hall hr hB hM hn' h' hB'
 go_enter Tryz.func41, Tryz.ntmps41
 go_wp2_with fail
 refine HC.out.mono ?_
 rintro e w1 ⟨rfl, hb1⟩
 have hb := HS.out.trans (hb1.mono HS.out.size)
 go_wp2
 go_ret
 exact ⟨rfl, hb⟩
end Go.Proofs.YtmenmepdmojnfaaGreatDoor.Wg
