/- Alt, MapC, WayP, DmsI, MatP, WayI, Back, Calm, Exch, MatI in one text. -/
import Derived.Test.YtgkgdgchkhdgjaaDoorKun
import Derived.Test.YtgkgdgchkhdgjaaDoorBase
import Derived.Test.YtgkgdgchkhdgjaaDoorChecked
import Derived.Maps.RangeWalk
import Derived.Maps.OwnOps
import Derived.Maps.OwnSet
import Derived.DeepKeys4
import Derived.WideKeyEntry
import Derived.Test.YtgkgdgchkhdgjaaDoorKuL
import Derived.Test.YtgkgdgchkhdgjaaDoorSetC
import Derived.Test.YtgkgdgchkhdgjaaDoorNbI
import Derived.Test.YtgkgdgchkhdgjaaDoorTilI
import Derived.Test.YtgkgdgchkhdgjaaDoorOrdI
import Derived.Test.YtgkgdgchkhdgjaaDoorDomO
import Derived.Test.YtgkgdgchkhdgjaaDoorNbM
import Derived.OwnWalk
import Derived.Laws.OwnMore
import Derived.Deep.DeepMust
import Derived.Deep.LoopGhost
import Derived.WalkMore
import Derived.RangeFuncNested
import Derived.RangeFuncBound
import Derived.RangeFuncCalls
import Derived.RangeFuncLeaves
import Derived.Shelf.Abstract
import Derived.Shelf.RegionOpen
import Derived.WalkKit
import Derived.OwnWalkIn
import Derived.TacticsInMore
import Derived.LoopNIn
import Derived.LoopIn
import Derived.OrdersIn
import Derived.OrdersHeld
import Derived.Test.YtgkgdgchkhdgjaaDoorDom
import Derived.Deep.RegionHeld3
import Derived.Test.YtgkgdgchkhdgjaaDoorRegCl

/- Ways that alternate, pure: a search that goes on with a pile of black places finds the same way as one that calls itself; dominoes exchanged along a way, in a table that has both places of each: no program here. -/
namespace Go.Proofs.YtgkgdgchkhdgjaaDoor.Kun
set_option linter.unusedVariables false
set_option linter.unusedSimpArgs false
open Go.Proofs.YtgkgdgchkhdgjaaDoor.Cnt (adj adj_iff adj_comm)

/-- the first neighbor that is there and was not tried. -/
def fstN (g Z : Nat → Bool) (v : Nat) : Option Nat := (nbN v).find? fun i => g i && !Z i
/-- a search with a pile (its top first): it ends with nothing, or with the pile and a free white place. -/
inductive Run (g : Nat → Bool) (J : Nat → Int) : List Nat → (Nat → Bool) → Option (List Nat × Nat) → Prop
  | nil (Z : Nat → Bool) : Run g J [] Z none
  | pop {Z : Nat → Bool} {v : Nat} {S : List Nat} {R : Option (List Nat × Nat)} : fstN g Z v = none → Run g J S Z R → Run g J (v :: S) Z R
  | hit {Z : Nat → Bool} {v : Nat} {S : List Nat} {i : Nat} : fstN g Z v = some i → J i < 0 → Run g J (v :: S) Z (some (v :: S, i))
  | push {Z : Nat → Bool} {v : Nat} {S : List Nat} {i : Nat} {R : Option (List Nat × Nat)} : fstN g Z v = some i → 0 ≤ J i → Run g J ((J i).toNat :: v :: S) (put Z i true) R → Run g J (v :: S) Z R
/-- the places joined anew, from the way's end to its start. -/
def exJ (J0 : Nat → Int) (v : Nat) : (Nat → Int) → List Nat → Nat → (Nat → Int)
  | J1, [], i => put J1 i (v : Int)
  | J1, w :: ws, i => exJ J0 v (put J1 i (J0 w)) ws w
theorem exJ_snoc (J0 : Nat → Int) (v u w1 : Nat) (h : J0 w1 = (u : Int)) : ∀ (ws : List Nat) (J1 : Nat → Int) (i : Nat), exJ J0 v J1 (ws ++ [w1]) i = put (exJ J0 u J1 ws i) w1 (v : Int)
  | [], J1, i => by show put (put J1 i (J0 w1)) w1 (v : Int) = _; rw [h]; rfl
  | w :: ws, J1, i => exJ_snoc J0 v u w1 h ws _ _
/-- a way: white places from its end to its start, and the free one. -/
structure Way (g col : Nat → Bool) (J : Nat → Int) (Z : Nat → Bool) (ws : List Nat) (i : Nat) : Prop where
  new : ∀ w ∈ ws, Z w = false ∧ 0 ≤ J w
  nodup : ws.Nodup
  free : J i < 0
  i64 : i < 64
  ig : g i = true
  ic : col i = false
/-- what the two searches have in common. -/
structure Both (g col : Nat → Bool) (J : Nat → Int) (Z : Nat → Bool) (v : Nat) (r : Ans) : Prop where
  mono : ∀ i, Z i = true → r.2.2 i = true
  no : r.1 = false → r.2.1 = J ∧ ∀ S R, Run g J S r.2.2 R → Run g J (v :: S) Z R
  yes : r.1 = true → ∃ ws i, Way g col J Z ws i ∧ r.2.1 = exJ J v J ws i ∧ ∀ S, Run g J (v :: S) Z (some (ws.map (fun w => (J w).toNat) ++ v :: S, i))
theorem find_app {α : Type} {p : α → Bool} : ∀ {l r : List α}, (∀ x ∈ l, p x = false) → (l ++ r).find? p = r.find? p
  | [], r, _ => rfl
  | x :: l, r, h => by
    rw [List.cons_append, List.find?_cons, h x (by simp)]
    exact find_app fun y hy => h y (by simp [hy])
theorem tryF_both {g col : Nat → Bool} {J : Nat → Int} {rec : (Nat → Int) → (Nat → Bool) → Nat → Ans} {v f : Nat} (hcol : ∀ a b, a < 64 → b < 64 → adj a b = true → col a = !col b) (hm : Mt g col J) (hv : v < 64) (hc : col v = true)
    (hrec : ∀ Z u, u < 64 → col u = true → uns g Z < f → Both g col J Z u (rec J Z u)) :
    ∀ (l pre : List Nat) (Z : Nat → Bool), nbN v = pre ++ l → (∀ i ∈ pre, (g i && !Z i) = false) → uns g Z < f + 1 → Both g col J Z v (tryF g rec v l J Z)
  | [], pre, Z, hl, hp, hu => by
    refine ⟨fun i h => h, fun _ => ⟨rfl, fun S R hR => Run.pop ?_ hR⟩, fun h => by cases h⟩
    show (nbN v).find? _ = none
    rw [hl, List.append_nil, List.find?_eq_none]
    intro i hi; rw [hp i hi]; simp
  | i :: r, pre, Z, hl, hp, hu => by
    have hl' : nbN v = (pre ++ [i]) ++ r := by rw [hl]; simp
    unfold tryF
    by_cases h1 : g i = false ∨ Z i = true
    · rw [if_pos h1]
      refine tryF_both hcol hm hv hc hrec r (pre ++ [i]) Z hl' (fun j hj => ?_) hu
      rcases List.mem_append.1 hj with hj | hj
      · exact hp j hj
      · rw [List.mem_singleton.1 hj]
        rcases h1 with q | q
        · rw [q]; rfl
        · rw [q]; simp
    · rw [if_neg h1]
      have hgi : g i = true := by
        cases q : g i with
        | true => rfl
        | false => exact absurd (.inl q) h1
      have hzi : Z i = false := by
        cases q : Z i with
        | false => rfl
        | true => exact absurd (.inr q) h1
      obtain ⟨hi, ha⟩ := mem_nbN.1 (show i ∈ nbN v by rw [hl]; simp)
      have hci : col i = false := by
        have := hcol v i hv hi ha
        rw [hc] at this
        cases q : col i with
        | false => rfl
        | true => rw [q] at this; cases this
      have hf : fstN g Z v = some i := by
        show (nbN v).find? _ = some i
        rw [hl, find_app hp, List.find?_cons, hgi, hzi]; rfl
      have hzm : ∀ k, Z k = true → put Z i true k = true := fun k hk => by
        by_cases e : k = i
        · subst e; exact put_at _ _ _
        · rw [put_ne e]; exact hk
      by_cases h2 : J i < 0
      · rw [if_pos h2]
        exact ⟨hzm, fun h => (by cases h), fun _ => ⟨[], i, ⟨fun w hw => (by cases hw), List.nodup_nil, h2, hi, hgi, hci⟩, rfl, fun S => Run.hit hf h2⟩⟩
      · rw [if_neg h2]
        have h0 : 0 ≤ J i := by omega
        obtain ⟨_, _, _, d64, dg, dc, da⟩ := hm.ok i h0
        have hud : uns g (put Z i true) < f := by have := uns_put (Z := Z) hi hgi hzi; omega
        have hB := hrec (put Z i true) (J i).toNat d64 dc hud
        cases hres : rec J (put Z i true) (J i).toNat with
        | mk b rest =>
          obtain ⟨J2, Z2⟩ := rest
          rw [hres] at hB
          obtain ⟨m1, m2, m3⟩ := hB
          simp only at m1 m2 m3
          have hz2 : ∀ k, Z k = true → Z2 k = true := fun k hk => m1 k (hzm k hk)
          cases b with
          | true =>
            obtain ⟨ws, j, hW, e, hR⟩ := m3 rfl
            refine ⟨hz2, fun h => (by cases h), fun _ => ⟨ws ++ [i], j, ⟨fun w hw => ?_, ?_, hW.free, hW.i64, hW.ig, hW.ic⟩, ?_, fun S => ?_⟩⟩
            · rcases List.mem_append.1 hw with hw | hw
              · obtain ⟨a, b⟩ := hW.new w hw
                refine ⟨?_, b⟩
                by_cases e : w = i
                · subst e; rw [put_at] at a; cases a
                · rw [put_ne e] at a; exact a
              · rw [List.mem_singleton.1 hw]; exact ⟨hzi, h0⟩
            · refine List.nodup_append.2 ⟨hW.nodup, by simp, fun a ha b hb e => ?_⟩
              rw [List.mem_singleton.1 hb] at e
              have := (hW.new a ha).1
              rw [e, put_at] at this; cases this
            · show put J2 i (v : Int) = _
              rw [e, exJ_snoc J v (J i).toNat i (Int.toNat_of_nonneg h0).symm]
            · have := Run.push (S := S) hf h0 (hR (v :: S))
              rw [List.map_append, List.append_assoc]
              exact this
          | false =>
            obtain ⟨rfl, hR⟩ := m2 rfl
            have hB2 := tryF_both hcol hm hv hc hrec r (pre ++ [i]) Z2 hl' (fun j hj => by
              rcases List.mem_append.1 hj with hj | hj
              · have := hp j hj
                cases qg : g j with
                | false => rfl
                | true =>
                  rw [qg] at this
                  have : Z j = true := by simpa using this
                  rw [hz2 j this]; rfl
              · rw [List.mem_singleton.1 hj, m1 i (put_at _ _ _)]; simp) (Nat.lt_of_le_of_lt (uns_le hz2) hu)
            obtain ⟨t1, t2, t3⟩ := hB2
            refine ⟨fun k hk => t1 k (hz2 k hk), fun h => ⟨(t2 h).1, fun S R hS => Run.push hf h0 (hR (v :: S) R ((t2 h).2 S R hS))⟩, fun h => ?_⟩
            obtain ⟨ws, j, hW, e, hRR⟩ := t3 h
            refine ⟨ws, j, ⟨fun w hw => ⟨not_true fun q => ?_, (hW.new w hw).2⟩, hW.nodup, hW.free, hW.i64, hW.ig, hW.ic⟩, e, fun S => Run.push hf h0 (hR (v :: S) _ (hRR S))⟩
            have := (hW.new w hw).1
            rw [hz2 w q] at this; cases this
theorem findF_both {g col : Nat → Bool} {J : Nat → Int} (hcol : ∀ a b, a < 64 → b < 64 → adj a b = true → col a = !col b) (hm : Mt g col J) : ∀ (f : Nat) (Z : Nat → Bool) (v : Nat), v < 64 → col v = true → uns g Z < f → Both g col J Z v (findF g f J Z v)
  | 0, Z, v, _, _, h => by omega
  | f + 1, Z, v, hv, hc, hu => tryF_both hcol hm hv hc (fun Z u a b c => findF_both hcol hm f Z u a b c) (nbN v) [] Z rfl (fun i hi => by cases hi) hu

/-! A table that has both places of each domino. -/
structure Mir (col : Nat → Bool) (J M : Nat → Int) : Prop where
  low : ∀ k, -1 ≤ M k
  wh : ∀ i, col i = false → M i = J i
  bl : ∀ v, col v = true → ∀ i : Nat, (M v = (i : Int) ↔ J i = (v : Int))
/-- the same but for the white place h. -/
structure MirH (col : Nat → Bool) (J M : Nat → Int) (h : Nat) : Prop where
  low : ∀ k, -1 ≤ M k
  wh : ∀ i, col i = false → i ≠ h → M i = J i
  bl : ∀ v, col v = true → ∀ i : Nat, i ≠ h → (M v = (i : Int) ↔ J i = (v : Int))
  no : ∀ v, col v = true → M v ≠ (h : Int)
/-- dominoes exchanged: from the end of the way. -/
def exM : List Nat → Nat → (Nat → Int) → (Nat → Int)
  | [], i, M => M
  | v :: vs, i, M => exM vs (M v).toNat (put (put M v (i : Int)) i (v : Int))
theorem ex_mir {col : Nat → Bool} {J0 : Nat → Int} {v0 : Nat} (hv0 : col v0 = true) (hblk : ∀ i, 0 ≤ J0 i → col (J0 i).toNat = true) : ∀ (ws : List Nat) (i : Nat) (J1 M : Nat → Int), MirH col J1 M i → col i = false → ws.Nodup → (∀ w ∈ ws, w ≠ i ∧ J1 w = J0 w ∧ 0 ≤ J0 w ∧ col w = false) → (∀ k, k ≠ i → J1 k ≠ (v0 : Int)) →
    Mir col (exJ J0 v0 J1 ws i) (exM (ws.map (fun w => (J0 w).toNat) ++ [v0]) i M)
  | [], i, J1, M, hM, hi, _, _, h0 => by
    have hne : v0 ≠ i := fun e => by rw [e, hi] at hv0; cases hv0
    show Mir col (put J1 i (v0 : Int)) (put (put M v0 (i : Int)) i (v0 : Int))
    refine ⟨fun k => ?_, fun k hk => ?_, fun v hv j => ?_⟩
    · by_cases e : k = i
      · rw [e, put_at]; omega
      · rw [put_ne e]
        by_cases e2 : k = v0
        · rw [e2, put_at]; omega
        · rw [put_ne e2]; exact hM.low k
    · by_cases e : k = i
      · rw [e, put_at, put_at]
      · rw [put_ne e, put_ne e, put_ne (fun q => by rw [q, hv0] at hk; cases hk)]
        exact hM.wh k hk e
    · have hvi : v ≠ i := fun e => by rw [e, hi] at hv; cases hv
      rw [put_ne hvi]
      by_cases e : v = v0
      · rw [e, put_at]
        by_cases ej : j = i
        · rw [ej, put_at]; exact ⟨fun _ => rfl, fun _ => rfl⟩
        · rw [put_ne ej]
          exact ⟨fun q => absurd (by omega) ej, fun q => absurd q (h0 j ej)⟩
      · rw [put_ne e]
        by_cases ej : j = i
        · rw [ej, put_at]
          exact ⟨fun q => absurd q (hM.no v hv), fun q => absurd (by omega) e⟩
        · rw [put_ne ej]; exact hM.bl v hv j ej
  | w :: ws, i, J1, M, hM, hi, hn, hw, h0 => by
    obtain ⟨wi, w1, w2, w3⟩ := hw w (by simp)
    obtain ⟨n1, n2⟩ := List.nodup_cons.1 hn
    obtain ⟨v, hv⟩ : ∃ v : Nat, J0 w = (v : Int) := ⟨(J0 w).toNat, (Int.toNat_of_nonneg w2).symm⟩
    have hvc : col v = true := by
      have := hblk w w2
      rwa [hv, Int.toNat_natCast] at this
    have hMv : M v = (w : Int) := (hM.bl v hvc w wi).2 (by rw [w1, hv])
    have hvi : v ≠ i := fun e => by rw [e, hi] at hvc; cases hvc
    have hvw : v ≠ w := fun e => by rw [e, w3] at hvc; cases hvc
    show Mir col (exJ J0 v0 (put J1 i (J0 w)) ws w) (exM ((J0 w).toNat :: (ws.map (fun w => (J0 w).toNat) ++ [v0])) i M)
    rw [hv, Int.toNat_natCast]
    show Mir col (exJ J0 v0 (put J1 i (v : Int)) ws w) (exM (ws.map (fun w => (J0 w).toNat) ++ [v0]) (M v).toNat (put (put M v (i : Int)) i (v : Int)))
    rw [hMv, Int.toNat_natCast]
    refine ex_mir hv0 hblk ws w _ _ ⟨fun k => ?_, fun k hk hkw => ?_, fun b hb j hjw => ?_, fun b hb => ?_⟩ w3 n2 (fun x hx => ?_) (fun k hk => ?_)
    · by_cases e : k = i
      · rw [e, put_at]; omega
      · rw [put_ne e]
        by_cases e2 : k = v
        · rw [e2, put_at]; omega
        · rw [put_ne e2]; exact hM.low k
    · by_cases e : k = i
      · rw [e, put_at, put_at]
      · rw [put_ne e, put_ne e, put_ne (fun q => by rw [q, hvc] at hk; cases hk)]
        exact hM.wh k hk e
    · have hbi : b ≠ i := fun e => by rw [e, hi] at hb; cases hb
      rw [put_ne hbi]
      by_cases e : b = v
      · rw [e, put_at]
        by_cases ej : j = i
        · rw [ej, put_at]; exact ⟨fun _ => rfl, fun _ => rfl⟩
        · rw [put_ne ej]
          refine ⟨fun q => absurd (by omega) ej, fun q => ?_⟩
          have := (hM.bl v hvc j ej).2 q
          rw [hMv] at this
          exact absurd (by omega) hjw
      · rw [put_ne e]
        by_cases ej : j = i
        · rw [ej, put_at]
          exact ⟨fun q => absurd q (hM.no b hb), fun q => absurd (by omega) e⟩
        · rw [put_ne ej]; exact hM.bl b hb j ej
    · have hbi : b ≠ i := fun e => by rw [e, hi] at hb; cases hb
      rw [put_ne hbi]
      by_cases e : b = v
      · rw [e, put_at]; intro q; exact wi (by omega)
      · rw [put_ne e]
        intro q
        have := (hM.bl b hb w wi).1 q
        rw [w1, hv] at this
        exact e (by omega)
    · obtain ⟨x1, x2, x3, x4⟩ := hw x (by simp [hx])
      refine ⟨fun e => n1 (e ▸ hx), ?_, x3, x4⟩
      rw [put_ne x1]; exact x2
    · by_cases e : k = i
      · rw [e, put_at]
        intro q
        exact h0 w wi (by rw [w1, hv, q])
      · rw [put_ne e]; exact h0 k e
/-- nothing is joined. -/
theorem mir_none (col : Nat → Bool) : Mir col (fun _ => -1) (fun _ => -1) := ⟨fun _ => Int.le_refl _, fun _ _ => rfl, fun v _ i => ⟨fun h => by omega, fun h => by omega⟩⟩
/-- what a table says lies in range. -/
theorem Mir.rng {g col : Nat → Bool} {J M : Nat → Int} (h : Mir col J M) (hm : Mt g col J) {k : Nat} (hk : 0 ≤ M k) : k < 64 ∧ g k = true ∧ (M k).toNat < 64 ∧ g (M k).toNat = true ∧ adj k (M k).toNat = true ∧ col (M k).toNat = !col k := by
  cases hc : col k with
  | false =>
    rw [h.wh k hc] at hk ⊢
    obtain ⟨a, b, c, d, e, f, q⟩ := hm.ok k hk
    exact ⟨a, b, d, e, by rw [adj_comm]; exact q, by rw [f]; rfl⟩
  | true =>
    have e := (h.bl k hc (M k).toNat).1 (Int.toNat_of_nonneg hk).symm
    obtain ⟨a, b, c, d, e', f, q⟩ := hm.ok (M k).toNat (by rw [e]; omega)
    rw [e, Int.toNat_natCast] at d e' f q
    exact ⟨d, e', a, b, q, by rw [c]; rfl⟩
/-- a search from a black place that is free, and what it leaves. -/
theorem search {g col : Nat → Bool} {J M : Nat → Int} (hcol : ∀ a b, a < 64 → b < 64 → adj a b = true → col a = !col b) (hm : Mt g col J) (hM : Mir col J M) {v : Nat} (hv : v < 64) (hc : col v = true) (hf : ∀ k, J k ≠ (v : Int)) :
    ∃ R, Run g J [v] (fun _ => false) R ∧ (R = none → (findF g 66 J (fun _ => false) v).2.1 = J) ∧ ∀ S i, R = some (S, i) → i < 64 ∧ J i < 0 ∧ (∀ u ∈ S, u < 64) ∧ S ≠ [] ∧ Mir col (findF g 66 J (fun _ => false) v).2.1 (exM S i M) := by
  have hu : uns g (fun _ => false) < 66 := by
    have : uns g (fun _ => false) ≤ 64 := by unfold uns; exact Nat.le_trans (List.length_filter_le _ _) (by rw [List.length_range]; exact Nat.le_refl _)
    omega
  have hB := findF_both hcol hm 66 (fun _ => false) v hv hc hu
  generalize findF g 66 J (fun _ => false) v = res at hB
  obtain ⟨b, J', Z'⟩ := res
  obtain ⟨_, m2, m3⟩ := hB
  simp only at m2 m3
  cases b with
  | false =>
    obtain ⟨e, hR⟩ := m2 rfl
    exact ⟨none, hR [] none (Run.nil _), fun _ => e, fun S i q => by cases q⟩
  | true =>
    obtain ⟨ws, i, hW, e, hR⟩ := m3 rfl
    refine ⟨_, hR [], fun q => (by cases q), fun S j q => ?_⟩
    cases q
    refine ⟨hW.i64, hW.free, fun u hu => ?_, by simp, ?_⟩
    · rcases List.mem_append.1 hu with hu | hu
      · obtain ⟨w, hw, rfl⟩ := List.mem_map.1 hu
        exact (hm.ok w (hW.new w hw).2).2.2.2.1
      · rw [List.mem_singleton.1 hu]; exact hv
    · show Mir col J' _
      rw [e]
      refine ex_mir hc (fun i hi => (hm.ok i hi).2.2.2.2.2.1) ws i J M ⟨hM.low, fun k hk _ => hM.wh k hk, fun b hb j _ => hM.bl b hb j, fun b hb q => ?_⟩ hW.ic hW.nodup (fun w hw => ?_) (fun k _ => hf k)
      · have := (hM.bl b hb i).1 q
        have := hW.free
        omega
      · have h0 := (hW.new w hw).2
        exact ⟨fun q => by have := hW.free; rw [← q] at this; omega, rfl, h0, (hm.ok w h0).2.2.1⟩
end Go.Proofs.YtgkgdgchkhdgjaaDoor.Kun

/- A map from cells to cells in memory: what stands at a cell, a cell put, how many, the steps of a loop over it. -/
namespace Go.Proofs.YtgkgdgchkhdgjaaDoor.Mat
set_option linter.unusedVariables false
set_option linter.unusedSimpArgs false
set_option maxRecDepth 100000
open Go.RowKit Go.Proofs.YtgkgdgchkhdgjaaDoor.Base Go.Proofs.YtgkgdgchkhdgjaaDoor.Kun
open Go.Maps (Keyed)
open Go.ChangeMaps Go.MapKept

theorem laidOut : laidOutB Tryd.prog = true := by kernel_rfl
theorem rowK : (33 : TypeId) < Tryd.prog.types.size := of_decide_eq_true (by kernel_rfl)
theorem deepK : Tryd.prog.keyTypeAt (Tryd.prog.types.size + 1) 33 = true := by kernel_rfl
theorem wideK : (match Tryd.prog.underlying 33 with | some (.array _ _) | some (.struct _) => true | _ => false) = true := by kernel_rfl
theorem lawK : WideMaps.KeyLaw Tryd.prog 33 := deep_law_laid laidOut (m := 2) (by omega) rowK (by kernel_rfl) wideK
theorem law : Keyed Tryd.prog 33 := Keyed.of_law lawK
theorem ut : Tryd.prog.underlying 54 = some (.map 33 33) := by kernel_rfl
theorem ui : Tryd.prog.underlying 3 = some (.int .i64) := by kernel_rfl
/-- the cell of a place, as a value. -/
def cV (k : Nat) : Value := .agg #[.int .i64 ((k % 8 : Nat) : Int), .int .i64 ((k / 8 : Nat) : Int)]
theorem zeroC (w : World) : (zeroValue 33).run Tryd.prog w = .ok (cV 0) w := by kernel_rfl
theorem cV_inj {j k : Nat} (h : cV j = cV k) : j = k := by
  unfold cV at h
  simp at h
  omega
noncomputable def fsK : Array Field := match Tryd.prog.underlying 33 with | some (.struct fs) => fs | _ => #[]
theorem uk : Tryd.prog.underlying 33 = some (.struct fsK) := by kernel_rfl
theorem fsK_is : fsK.toList.map (fun f => (f.name != "_", f.type, f.offset)) = [(true, 3, 0), (true, 3, 1)] := by kernel_rfl
/-- a cell as a key. -/
def k2 (a b : Int) : Lit := .string (keyBytes [.int .i64 a, .int .i64 b])
theorem key2 {a b : Int} (ha : (Lit.int .i64 a).wf = true) (hb : (Lit.int .i64 b).wf = true) : keyOf Tryd.prog 33 (.agg #[.int .i64 a, .int .i64 b]) = some (k2 a b) := by
  have hu := uk
  have hf := fsK_is
  generalize fsK = fs at hu hf
  have hc : Tryd.prog.cellsOf 33 = 2 := by kernel_rfl
  have hi : Tryd.prog.cellsOf 3 = 1 := by kernel_rfl
  have ht : Tryd.prog.keyType 33 = true := deepK
  have hsz : ∃ n, Tryd.prog.types.size + 1 = n + 1 + 1 := ⟨Tryd.prog.types.size - 1, by have : 0 < Tryd.prog.types.size := Nat.lt_of_le_of_lt (Nat.zero_le _) rowK; omega⟩
  obtain ⟨n, hn⟩ := hsz
  have he : ∀ c : Int, (Lit.int .i64 c).wf = true → Tryd.prog.keyLits (n + 1) 3 [.int .i64 c] = some [.int .i64 c] := fun c hw => by
    unfold Program.keyLits
    rw [ui]; simp [hw]
  have hkl : Tryd.prog.keyLits (n + 1 + 1) 33 [.int .i64 a, .int .i64 b] = some [.int .i64 a, .int .i64 b] := by
    rw [Program.keyLits.eq_def]
    simp only [hu, hc]
    have hall : fs.all (fun f => f.name != "_") = true := by
      rw [← Array.all_toList]
      have : (fs.toList.map (fun f => (f.name != "_", f.type, f.offset))).all (fun p => p.1) = true := by rw [hf]; rfl
      simpa [List.all_map, Function.comp_def] using this
    rw [if_pos ⟨rfl, hall⟩]
    have hm : (fs.toList.mapM fun f => Tryd.prog.keyLits (n + 1) f.type (([Value.int .i64 a, Value.int .i64 b].drop f.offset).take (Tryd.prog.cellsOf f.type))) = ((fs.toList.map (fun f => (f.name != "_", f.type, f.offset))).mapM fun p => Tryd.prog.keyLits (n + 1) p.2.1 (([Value.int .i64 a, Value.int .i64 b].drop p.2.2).take (Tryd.prog.cellsOf p.2.1))) := by
      rw [List.mapM_map]; rfl
    rw [hm, hf]
    simp [hi, he a ha, he b hb]
  have hform : (Value.agg #[.int .i64 a, .int .i64 b]).formed Tryd.prog 33 = true := by
    simp [Value.formed, hu, hc]
  unfold keyOf
  rw [hu]
  simp only [ht, hform, hn, Bool.and_true, if_true]
  show Option.map _ (Tryd.prog.keyLits (n + 1 + 1) 33 [.int .i64 a, .int .i64 b]) = _
  rw [hkl]; rfl
theorem wf_nat {n : Nat} (h : n < 1000000) : (Lit.int .i64 (n : Int)).wf = true := WalkArith.wf_i64 (by omega)
/-- the key of a place. -/
def kC (k : Nat) : Lit := k2 ((k % 8 : Nat) : Int) ((k / 8 : Nat) : Int)
theorem keyC {k : Nat} (hk : k < 64) : keyOf Tryd.prog 33 (cV k) = some (kC k) := key2 (wf_nat (by omega)) (wf_nat (by omega))
theorem kC_key {k : Nat} (hk : k < 64) : WideAt.IsKeyLit (kC k) := law.key (keyC hk)
theorem kC_inj {j k : Nat} (hj : j < 64) (hk : k < 64) (h : kC j = kC k) : j = k := by
  have h1 := keyC hj
  rw [h] at h1
  exact cV_inj (law.inj h1 (keyC hk))
theorem same_kC {j k : Nat} (hj : j < 64) (hk : k < 64) : (kC j).sameKey (kC k) = decide (j = k) := by
  by_cases h : j = k
  · subst h; rw [WideAt.sameKey_self (kC_key hj)]; simp
  · rw [Maps.sameKey_ne (fun e => h (kC_inj hj hk e))]; simp [h]
open Classical in
/-- how an element reads: as its place. -/
noncomputable def RC (v : Value) : Option (DataW Unit × List MemPlace) := if h : ∃ k : Nat, k < 64 ∧ v = cV k then some (.lit (.int .i64 ((Classical.choose h : Nat) : Int)), []) else none
theorem RC_at {k : Nat} (hk : k < 64) : RC (cV k) = some (.lit (.int .i64 (k : Int)), []) := by
  have h : ∃ j : Nat, j < 64 ∧ cV k = cV j := ⟨k, hk, rfl⟩
  unfold RC
  rw [dif_pos h]
  have := cV_inj (Classical.choose_spec h).2
  rw [← this]
theorem RC_inv {v : Value} {y : DataW Unit × List MemPlace} (h : RC v = some y) : ∃ k : Nat, k < 64 ∧ v = cV k ∧ y = (.lit (.int .i64 (k : Int)), []) := by
  unfold RC at h
  split at h
  · rename_i hx
    exact ⟨_, (Classical.choose_spec hx).1, (Classical.choose_spec hx).2, (Option.some.inj h).symm⟩
  · cases h
/-- the datum D says M: a place's partner, or less than 0. -/
def KD (D : DataW Unit) (M : Nat → Int) : Prop :=
  (∀ kl, Maps.has D kl = true → ∃ k, k < 64 ∧ 0 ≤ M k ∧ kl = kC k) ∧ ∀ k, k < 64 → 0 ≤ M k → Maps.has D (kC k) = true ∧ ∀ zd, D.atKey (kC k) zd = .lit (.int .i64 (M k))
theorem KD.not {D : DataW Unit} {M : Nat → Int} (h : KD D M) {k : Nat} (hk : k < 64) (h0 : M k < 0) : Maps.has D (kC k) = false := by
  apply Kun.not_true
  intro q
  obtain ⟨j, hj, hj0, e⟩ := h.1 _ q
  have := kC_inj hk hj e
  subst this
  omega
theorem KD.has {D : DataW Unit} {M : Nat → Int} (h : KD D M) {k : Nat} (hk : k < 64) : Maps.has D (kC k) = decide (0 ≤ M k) := by
  by_cases h0 : 0 ≤ M k
  · rw [(h.2 k hk h0).1, decide_eq_true h0]
  · rw [h.not hk (by omega), decide_eq_false h0]
theorem KD.put {D : DataW Unit} {M : Nat → Int} (h : KD D M) (hD : Maps.IsMap D) {k j : Nat} (hk : k < 64) : KD (D.put (kC k) (.lit (.int .i64 (j : Int)))) (put M k (j : Int)) := by
  refine ⟨fun kl hkl => ?_, fun i hi h0 => ?_⟩
  · by_cases e : kl = kC k
    · exact ⟨k, hk, by rw [put_at]; omega, e⟩
    · rw [Maps.has_put_other e] at hkl
      obtain ⟨i, hi, h0, rfl⟩ := h.1 _ hkl
      exact ⟨i, hi, by rw [put_ne (fun q => e (by rw [q]))]; exact h0, rfl⟩
  · by_cases e : i = k
    · subst e
      exact ⟨Maps.has_put_same hD (kC_key hi) _, fun zd => by rw [Maps.atKey_put_same hD (kC_key hi), put_at]⟩
    · have ne : kC i ≠ kC k := fun q => e (kC_inj hi hk q)
      rw [put_ne e] at h0 ⊢
      obtain ⟨a, b⟩ := h.2 i hi h0
      exact ⟨by rw [Maps.has_put_other ne]; exact a, fun zd => by rw [Maps.atKey_put_other ne]; exact b zd⟩
theorem KD.none : KD (.map []) (fun _ => -1) := ⟨fun kl h => (by cases h), fun k _ h => (by simp at h)⟩
/-- a list without doubles of numbers below n. -/
theorem nodup_len : ∀ (n : Nat) (l : List Nat), l.Nodup → (∀ x ∈ l, x < n) → l.length ≤ n
  | 0, l, _, h => by
    cases l with
    | nil => simp
    | cons x r => exact absurd (h x (by simp)) (by omega)
  | n + 1, l, hn, h => by
    by_cases hm : n ∈ l
    · have h1 := nodup_len n (l.erase n) (hn.erase n) (fun x hx => by
        have h2 := h x (List.mem_of_mem_erase hx)
        have : x ≠ n := fun e => by
          subst e
          exact (List.Nodup.not_mem_erase hn) hx
        omega)
      rw [List.length_erase_of_mem hm] at h1; omega
    · have := nodup_len n l hn (fun x hx => by
        have h2 := h x hx
        have : x ≠ n := fun e => hm (e ▸ hx)
        omega)
      omega
theorem index_list : ∀ (l : List (Lit × DataW Unit)) (n : Nat), l.Pairwise (fun p q => p.1 ≠ q.1) → (∀ p ∈ l, ∃ i, i < n ∧ p.1 = kC i) → ∃ m : List Nat, m.length = l.length ∧ m.Nodup ∧ (∀ x ∈ m, x < n) ∧ ∀ x ∈ m, ∃ p ∈ l, p.1 = kC x
  | [], n, _, _ => ⟨[], rfl, List.nodup_nil, by simp, by simp⟩
  | p :: r, n, hp, h => by
    obtain ⟨h1, h2⟩ := List.pairwise_cons.1 hp
    obtain ⟨m, m1, m2, m3, m4⟩ := index_list r n h2 (fun q hq => h q (by simp [hq]))
    obtain ⟨i, hi, e⟩ := h p (by simp)
    refine ⟨i :: m, by simp [m1], List.nodup_cons.2 ⟨fun hm => ?_, m2⟩, fun x hx => ?_, fun x hx => ?_⟩
    · obtain ⟨q, hq, eq⟩ := m4 i hm
      exact h1 q hq (e.trans eq.symm)
    · rcases List.mem_cons.1 hx with rfl | hx
      · exact hi
      · exact m3 x hx
    · rcases List.mem_cons.1 hx with rfl | hx
      · exact ⟨p, by simp, e⟩
      · obtain ⟨q, hq, eq⟩ := m4 x hx
        exact ⟨q, by simp [hq], eq⟩
/-- block b is a map that reads as M. -/
def OwnC (w : World) (b : Nat) (M : Nat → Int) : Prop := ∃ D, w.ownsMap Tryd.prog 33 RC b 64 D ∧ KD D M
theorem own_bound {w : World} {b n : Nat} {D : DataW Unit} {M : Nat → Int} (h : w.ownsMap Tryd.prog 33 RC b n D) (hk : KD D M) : w.ownsMap Tryd.prog 33 RC b 64 D := by
  obtain ⟨es0, hD0, hp, hkeys⟩ := h.entries law
  have hlen : es0.length ≤ 64 := by
    obtain ⟨m, m1, m2, m3, _⟩ := index_list es0 64 hp (fun p hp' => by
      obtain ⟨i, hi, _, e⟩ := hk.1 p.1 (by rw [hD0]; exact List.any_eq_true.2 ⟨p, hp', WideAt.sameKey_self (hkeys p hp')⟩)
      exact ⟨i, hi, e⟩)
    rw [← m1]; exact nodup_len 64 m m2 m3
  obtain ⟨es, clock, hb, F, hs, hD⟩ := h
  refine ⟨es, clock, hb, F, ?_, hD⟩
  rw [hD0] at hD
  cases hD
  rw [length_sorted] at hlen
  simpa using hlen
theorem OwnC.lt {w : World} {b : Nat} {M : Nat → Int} (h : OwnC w b M) : b < w.heap.size := by
  obtain ⟨D, h, _⟩ := h
  exact h.lt
theorem OwnC.obj {w : World} {b : Nat} {M : Nat → Int} (h : OwnC w b M) : ∃ es clock, w.heap[b]? = some (.map es clock) := by
  obtain ⟨D, ⟨es, clock, hb, _⟩, _⟩ := h
  exact ⟨es, clock, hb⟩
theorem OwnC.same {w w' : World} {b : Nat} {M : Nat → Int} (h : OwnC w b M) (hb : w'.heap[b]? = w.heap[b]?) : OwnC w' b M := by
  obtain ⟨D, ⟨es, clock, h1, h2⟩, h3⟩ := h
  exact ⟨D, ⟨es, clock, hb.trans h1, h2⟩, h3⟩
theorem OwnC.on {w w' : World} {b : Nat} {M : Nat → Int} (h : OwnC w b M) (hb : Below w.heap.size w w') : OwnC w' b M := h.same (hb.block b h.lt)
theorem OwnC.kept {w w' : World} {b : Nat} {M : Nat → Int} {row : Option Nat} (h : OwnC w b M) (hg : w.grownBy w' row) (hne : some b ≠ row) : OwnC w' b M := h.same (hg.block b h.lt hne)
theorem OwnC.made (w : World) : OwnC (w.alloc (.map #[] 0)) w.heap.size (fun _ => -1) := ⟨.map [], (World.ownsMap_made w _ _ _).mono (Nat.zero_le _), KD.none⟩
/-- 'v, ok := m[k]'. -/
theorem OwnC.look {w : World} {b : Nat} {M : Nat → Int} (h : OwnC w b M) {k : Nat} (hk : k < 64) : (Instr.lookup 54 (.map (some b)) (cV k) true).run Tryd.prog w = .ok (.tuple #[cV (M k).toNat, .bool (decide (0 ≤ M k))]) w := by
  obtain ⟨D, ho, hD⟩ := h
  obtain ⟨v, ps, hrun, hv⟩ := ho.look_ok law ut (zeroC w) (RC_at (k := 0) (by omega)) (keyC hk)
  rw [hrun, hD.has hk]
  obtain ⟨j, hj, rfl, e⟩ := RC_inv hv
  by_cases h0 : 0 ≤ M k
  · rw [(hD.2 k hk h0).2] at e
    simp only [Prod.mk.injEq, DataW.lit.injEq, Lit.int.injEq] at e
    rw [e.1.2, Int.toNat_natCast]
  · rw [Maps.atKey_of_not_has (hD.not hk (by omega))] at e
    simp only [Prod.mk.injEq, DataW.lit.injEq, Lit.int.injEq] at e
    rw [show (M k).toNat = j by omega]
/-- 'm[k]'. -/
theorem OwnC.at {w : World} {b : Nat} {M : Nat → Int} (h : OwnC w b M) {k : Nat} (hk : k < 64) : (Instr.lookup 54 (.map (some b)) (cV k) false).run Tryd.prog w = .ok (cV (M k).toNat) w := by
  obtain ⟨D, ho, hD⟩ := h
  obtain ⟨v, ps, hrun, hv⟩ := ho.lookup law ut (zeroC w) (RC_at (k := 0) (by omega)) (keyC hk)
  rw [hrun]
  obtain ⟨j, hj, rfl, e⟩ := RC_inv hv
  by_cases h0 : 0 ≤ M k
  · rw [(hD.2 k hk h0).2] at e
    simp only [Prod.mk.injEq, DataW.lit.injEq, Lit.int.injEq] at e
    rw [e.1.2, Int.toNat_natCast]
  · rw [Maps.atKey_of_not_has (hD.not hk (by omega))] at e
    simp only [Prod.mk.injEq, DataW.lit.injEq, Lit.int.injEq] at e
    rw [show (M k).toNat = j by omega]
/-- 'm[k] = c'. -/
theorem OwnC.store {w : World} {b : Nat} {M : Nat → Int} (h : OwnC w b M) {k j : Nat} (hk : k < 64) (hj : j < 64) : ∃ w', (Instr.mapUpdate 54 (.map (some b)) (cV k) (cV j)).run Tryd.prog w = .ok () w' ∧ OwnC w' b (put M k (j : Int)) ∧ w.mapTurned w' b := by
  obtain ⟨D, ho, hD⟩ := h
  obtain ⟨w', hrun, ho', ht⟩ := ho.store law ut (by unfold maxLen; omega) (keyC hk) (RC_at hj)
  have hD' := hD.put ho.isMap (k := k) (j := j) hk
  exact ⟨w', hrun, ⟨_, own_bound ho' hD', hD'⟩, ht⟩
theorem turned_size {w w' : World} {b : Nat} (h : w.mapTurned w' b) : w'.heap.size = w.heap.size := by
  obtain ⟨es, clock, es', clock', hb, rfl⟩ := h
  simp [setBlock]
/-- 'len(m)': some number. -/
theorem OwnC.len {w : World} {b : Nat} {M : Nat → Int} (h : OwnC w b M) (ty : TypeId) : ∃ n : Nat, n ≤ 64 ∧ (Builtin.len_ #[54] ty #[.map (some b)]).run Tryd.prog w = .ok (.int .i64 (n : Int)) w := by
  obtain ⟨D, ho, hD⟩ := h
  exact ⟨Maps.size D, ho.size_le, ho.len ut ty⟩
/-- a loop over the map under way: the places that are still to come. -/
def RgC (w : World) (b r : Nat) (M : Nat → Int) (left : Nat → Bool) (cnt : Nat) : Prop :=
  ∃ D lf, w.ranges Tryd.prog 33 RC b r 64 D lf cnt ∧ KD D M ∧ (∀ k, k < 64 → lf (kC k) = left k) ∧ ∀ kl, lf kl = true → ∃ k, k < 64 ∧ 0 ≤ M k ∧ kl = kC k
theorem RgC.lt {w : World} {b r : Nat} {M : Nat → Int} {left : Nat → Bool} {cnt : Nat} (h : RgC w b r M left cnt) : r < w.heap.size ∧ b < w.heap.size := by
  obtain ⟨D, lf, h, _⟩ := h
  exact ⟨h.lt, h.owns.lt⟩
theorem RgC.left_eq {w : World} {b r : Nat} {M : Nat → Int} {left : Nat → Bool} {cnt : Nat} (h : RgC w b r M left cnt) : w.rangeLeft b r = cnt := by
  obtain ⟨D, lf, h, _⟩ := h
  exact h.left_eq
theorem RgC.kept {w w' : World} {b r : Nat} {M : Nat → Int} {left : Nat → Bool} {cnt : Nat} {row : Option Nat} (h : RgC w b r M left cnt) (hg : w.grownBy w' row) (hb : some b ≠ row) (hr : some r ≠ row) : RgC w' b r M left cnt := by
  obtain ⟨D, lf, h, rest⟩ := h
  exact ⟨D, lf, h.kept hg hb hr, rest⟩
theorem RgC.on {w w' : World} {b r : Nat} {M : Nat → Int} {left : Nat → Bool} {cnt : Nat} (h : RgC w b r M left cnt) (hb : Below w.heap.size w w') : RgC w' b r M left cnt :=
  h.kept (row := none) ⟨hb.os, hb.tape, hb.output, hb.size, fun k hk _ => hb.block k hk⟩ (by simp) (by simp)
/-- 'range m'. -/
theorem OwnC.range {w : World} {b : Nat} {M : Nat → Int} (h : OwnC w b M) : ∃ w' cnt, (Instr.range 54 (.map (some b))).run Tryd.prog w = .ok (.pointer (some ⟨w.heap.size, 0, none⟩)) w' ∧ cnt ≤ 64 ∧ RgC w' b w.heap.size M (fun k => decide (0 ≤ M k)) cnt ∧ w.grownBy w' none ∧ w'.heap.size = w.heap.size + 1 := by
  obtain ⟨D, ho, hD⟩ := h
  obtain ⟨w', hrun, hr, hg, hs⟩ := ho.range law ut
  exact ⟨w', _, hrun, ho.size_le, ⟨D, _, hr, hD, fun k hk => hD.has hk, fun kl hkl => hD.1 kl hkl⟩, hg, hs⟩
/-- the step over it: some place that is still to come, with its partner. -/
theorem next_c {ops : Array Oper} {rest : List Oper} {o : Oper} {a : Act} {Q : Exit → Act → World → Prop} (w : World) (hg : o.guard = none) (it : Operand) (hop : o.op = Op.next it false)
    (b r : Nat) (M : Nat → Int) (left : Nat → Bool) (cnt : Nat) (hit : a.eval it = .pointer (some ⟨r, 0, none⟩)) (h : RgC w b r M left cnt)
    (hDone : (∀ k, k < 64 → left k = false) → wpList Tryd.prog ops Q rest (a.put o.dst (.tuple #[.bool false])) w)
    (hMore : ∀ (k : Nat) (w' : World) (cnt' : Nat), k < 64 → 0 ≤ M k → left k = true → RgC w' b r M (fun z => left z && !decide (z = k)) cnt' → cnt' < cnt →
      w.grownBy w' (some r) → (Instr.entry (.pointer (some ⟨r, 0, none⟩))).run Tryd.prog w' = .ok (.tuple #[cV k, cV (M k).toNat]) w' → wpList Tryd.prog ops Q rest (a.put o.dst (.tuple #[.bool true, cV k, cV (M k).toNat])) w') :
    wpList Tryd.prog ops Q (o :: rest) a w := by
  obtain ⟨D, lf, h, hD, hl1, hl2⟩ := h
  refine wpList_plain hg fun K' hK' => ?_
  unfold Oper.wp
  rcases h.next law o.type with ⟨h0, hl0, hrun⟩ | ⟨key, v, kl, y, w', cnt', hkey, hlk, hv, hat, hrun, hrg, hlt, hgr, hsz, hen⟩
  · simp [execOp, hop, hit, hrun, Result.andThen]
    exact hK' _ _ (hDone fun k hk => by rw [← hl1 k hk]; exact hl0 _)
  · obtain ⟨k, hk, h0, rfl⟩ := hl2 kl hlk
    obtain rfl := law.inj hkey (keyC hk)
    obtain ⟨j, hj, rfl, rfl⟩ := RC_inv hv
    have hj2 := hat (.lit (.int .i64 0))
    rw [(hD.2 k hk h0).2] at hj2
    simp only [DataW.lit.injEq, Lit.int.injEq] at hj2
    have ej : (M k).toNat = j := by omega
    simp [execOp, hop, hit, hrun, Result.andThen]
    have hM := hMore k w' cnt' hk h0 (by rw [← hl1 k hk]; exact hlk) ⟨D, _, hrg, hD, fun z hz => by rw [hl1 z hz, same_kC hz hk], fun kl' hk' => by
      rw [Bool.and_eq_true] at hk'
      exact hl2 kl' hk'.1⟩ hlt hgr (by rw [ej]; exact hen)
    rw [ej] at hM
    exact hK' _ _ hM
/-- the table's numbers are places. -/
def Rn (M : Nat → Int) : Prop := ∀ k, M k < 64
theorem run_makeMapC {w : World} : (Instr.makeMap 54 none).run Tryd.prog w = .ok (.map (some w.heap.size)) (w.alloc (.map #[] 0)) := by
  simp [Instr.makeMap, run_underlying ut, Result.andThen]
end Go.Proofs.YtgkgdgchkhdgjaaDoor.Mat

/- The search of a way, what is pure of it, and its variables in memory. -/
namespace Go.Proofs.YtgkgdgchkhdgjaaDoor.Mat
set_option linter.unusedVariables false
set_option linter.unusedSimpArgs false
set_option maxRecDepth 100000
open Go.RowKit Go.Proofs.YtgkgdgchkhdgjaaDoor.Base Go.Proofs.YtgkgdgchkhdgjaaDoor.Pure Go.Proofs.YtgkgdgchkhdgjaaDoor.Cell Go.Proofs.YtgkgdgchkhdgjaaDoor.Dom Go.Proofs.YtgkgdgchkhdgjaaDoor.Sets Go.Proofs.YtgkgdgchkhdgjaaDoor.Kun Go.Proofs.YtgkgdgchkhdgjaaDoor.Til Go.Joins
open Go.Proofs.YtgkgdgchkhdgjaaDoor.Cnt (adj gR)
open Go.Proofs.YtgkgdgchkhdgjaaDoor.Nb (rowC NbPost nbTo)

theorem Run.inv {g : Nat → Bool} {M : Nat → Int} {v : Nat} {S : List Nat} {Z : Nat → Bool} {R : Option (List Nat × Nat)} (h : Run g M (v :: S) Z R) :
    (fstN g Z v = none ∧ Run g M S Z R) ∨ ∃ i, fstN g Z v = some i ∧ ((M i < 0 ∧ R = some (v :: S, i)) ∨ (0 ≤ M i ∧ Run g M ((M i).toNat :: v :: S) (put Z i true) R)) := by
  cases h with
  | pop a b => exact .inl ⟨a, b⟩
  | hit a b => exact .inr ⟨_, a, .inl ⟨b, rfl⟩⟩
  | push a b c => exact .inr ⟨_, a, .inr ⟨b, c⟩⟩
theorem Run.inv_nil {g : Nat → Bool} {M : Nat → Int} {Z : Nat → Bool} {R : Option (List Nat × Nat)} (h : Run g M [] Z R) : R = none := by
  cases h; rfl
/-- the search looks at white places alone. -/
theorem Run.congr {g col : Nat → Bool} {J M : Nat → Int} (hcol : ∀ a b, a < 64 → b < 64 → adj a b = true → col a = !col b) (hm : Mt g col J) (hM : ∀ i, col i = false → M i = J i) {S : List Nat} {Z : Nat → Bool} {R : Option (List Nat × Nat)} (h : Run g J S Z R) :
    (∀ u ∈ S, u < 64 ∧ col u = true) → Run g M S Z R := by
  have key : ∀ {Z : Nat → Bool} {v i : Nat}, v < 64 → col v = true → fstN g Z v = some i → M i = J i := fun {Z v i} hv hc hf => by
    have := List.mem_of_find?_eq_some hf
    obtain ⟨hi, ha⟩ := mem_nbN.1 this
    have := hcol v i hv hi ha
    rw [hc] at this
    refine hM i ?_
    cases q : col i with
    | false => rfl
    | true => rw [q] at this; cases this
  induction h with
  | nil Z => intro _; exact Run.nil Z
  | pop a b ih => intro hs; exact Run.pop a (ih fun u hu => hs u (by simp [hu]))
  | hit a b => intro hs; have hv := hs _ List.mem_cons_self; exact Run.hit a (by rw [key hv.1 hv.2 a]; exact b)
  | push a b c ih =>
    intro hs
    have hv := hs _ List.mem_cons_self
    have e := key hv.1 hv.2 a
    refine Run.push a (by rw [e]; exact b) ?_
    rw [e]
    refine ih fun u hu => ?_
    rcases List.mem_cons.1 hu with rfl | hu
    · have := hm.ok _ b
      exact ⟨this.2.2.2.1, this.2.2.2.2.2.1⟩
    · exact hs u hu
theorem nb_table : ∀ v : Fin 64, nbTo (plc v.val).1 (plc v.val).2 64 = (nbN v.val).map plc := by decide +kernel
theorem nb_is {v : Nat} (hv : v < 64) : nbTo (plc v).1 (plc v).2 64 = (nbN v).map plc := nb_table ⟨v, hv⟩
theorem nb_len : ∀ v : Fin 64, (nbN v.val).length ≤ 4 := by decide +kernel
/-- one place more is tried. -/
theorem bt_or {x i : Nat} (hi : i < 64) : bt (x ||| 2 ^ i) = put (bt x) i true := by
  funext k
  unfold bt
  by_cases e : k = i
  · rw [e, put_at, Nat.testBit_or, Nat.testBit_two_pow_self]; simp
  · rw [put_ne e, Nat.testBit_or, Nat.testBit_two_pow_of_ne (fun q => e q.symm)]; simp
theorem has_plc {x k : Nat} (hk : k < 64) : hasS x (plc k).1 (plc k).2 = bt x k := by
  unfold hasS
  have h := ok_plc hk
  rw [okB_of h]
  have : ((plc k).2 * 8 + (plc k).1).toNat = k := by unfold plc; simp only; omega
  rw [this]; rfl
theorem reg_plc {xs : List Int} (ho : okR xs) {k : Nat} (hk : k < 64) : hasB xs (plc k).1 (plc k).2 = gR xs k := by
  rw [Bool.eq_iff_iff]
  exact ⟨fun h => Lis.place_has hk h, fun h => Lis.has_place ho h⟩
/-- skipped so far. -/
theorem fst_here {g Z : Nat → Bool} {v k : Nat} (hk : k < (nbN v).length) (h : ∀ j (hj : j < (nbN v).length), j < k → (g (nbN v)[j] && !Z (nbN v)[j]) = false) (hx : (g (nbN v)[k] && !Z (nbN v)[k]) = true) : fstN g Z v = some (nbN v)[k] := by
  have e : nbN v = (nbN v).take k ++ (nbN v)[k] :: (nbN v).drop (k + 1) := by
    conv => lhs; rw [← List.take_append_drop k (nbN v)]
    rw [List.drop_eq_getElem_cons hk]
  unfold fstN
  generalize hq : (nbN v)[k] = q at hx e
  rw [e, find_app (fun x hx' => ?_), List.find?_cons, hx]
  obtain ⟨j, hj, rfl⟩ := List.getElem_of_mem hx'
  rw [List.length_take] at hj
  rw [List.getElem_take]
  exact h j (by omega) (by omega)
theorem fst_none {g Z : Nat → Bool} {v : Nat} (h : ∀ j (hj : j < (nbN v).length), (g (nbN v)[j] && !Z (nbN v)[j]) = false) : fstN g Z v = none := by
  unfold fstN
  rw [List.find?_eq_none]
  intro x hx
  obtain ⟨j, hj, rfl⟩ := List.getElem_of_mem hx
  rw [h j hj]; simp
/-- the pile in memory: its bottom first. -/
def rowS (S : List Nat) : List Value := rowC (S.reverse.map plc)
theorem rowS_cons (v : Nat) (S : List Nat) : rowS (v :: S) = rowS S ++ [.int .i64 (plc v).1, .int .i64 (plc v).2] := by
  unfold rowS; rw [List.reverse_cons, List.map_append]; exact Nb.rowC_snoc _ _
theorem rowS_length (S : List Nat) : (rowS S).length = S.length * 2 := by unfold rowS; rw [Nb.rowC_length]; simp
/-- the variables: the region's box, the result's. -/
structure WS (w : World) (r : Value) (W : World) : Prop where
  bel : Below w.heap.size w W
  box : Rg W w.heap.size r
  st : w.heap.size + 1 < W.heap.size
  res : At2 W (w.heap.size + 2) 0 0
theorem WS.on {w W W' : World} {r : Value} (h : WS w r W) (hb : Below W.heap.size W W') : WS w r W' := ⟨h.bel.trans (hb.mono h.bel.size), h.box.on hb, Nat.lt_of_lt_of_le h.st hb.size, h.res.on hb⟩
theorem WS.drew {w W : World} {r : Value} (h : WS w r W) : WS w r W.drew := ⟨h.bel.drew, h.box, h.st, h.res⟩
theorem WS.grown {w W W' : World} {r : Value} {row : Option Nat} (h : WS w r W) (hg : W.grownBy W' row) (hr : ∀ g, row = some g → w.heap.size + 3 ≤ g) : WS w r W' := by
  have hz := h.res.lt
  have ne : ∀ k, k < w.heap.size + 3 → some k ≠ row := fun k hk e => by have := hr k e.symm; omega
  exact ⟨h.bel.grown hg h.bel.size (fun g e => by have := hr g e; omega), (hg.block _ (by omega) (ne _ (by omega))).trans h.box, Nat.lt_of_lt_of_le h.st hg.size, (hg.block _ (by omega) (ne _ (by omega))).trans h.res⟩
/-- the measure of the search. -/
def mes (g : Nat → Bool) (a b : Value) : Nat := match a, b with
  | .int _ x, .slice _ n _ => 2 * uns g (bt x.toNat) + n
  | _, _ => 0
theorem mes_at (g : Nat → Bool) (x n cap : Nat) (A : Option Addr) : mes g (.int .u64 (x : Int)) (.slice A n cap) = 2 * uns g (bt x) + n := by unfold mes; simp
end Go.Proofs.YtgkgdgchkhdgjaaDoor.Mat

/- The dominoes of a table, the program's: each cell with its partner, in order, each domino once. -/
namespace Go.Proofs.YtgkgdgchkhdgjaaDoor.Mat
set_option linter.unusedVariables false
set_option linter.unusedSimpArgs false
set_option maxRecDepth 100000
open Go.RowKit Go.Proofs.YtgkgdgchkhdgjaaDoor.Base Go.Proofs.YtgkgdgchkhdgjaaDoor.Pure Go.Proofs.YtgkgdgchkhdgjaaDoor.Cell Go.Proofs.YtgkgdgchkhdgjaaDoor.Dom Go.Proofs.YtgkgdgchkhdgjaaDoor.Dms Go.Proofs.YtgkgdgchkhdgjaaDoor.Sets Go.Proofs.YtgkgdgchkhdgjaaDoor.Kun Go.Proofs.YtgkgdgchkhdgjaaDoor.KuL Go.Proofs.YtgkgdgchkhdgjaaDoor.Til Go.Joins
open Go.Proofs.YtgkgdgchkhdgjaaDoor.Cnt (adj gR)
open Go.Proofs.YtgkgdgchkhdgjaaDoor.Reg hiding Yes add_none RC rc_start

section
variable {ops : Array Oper} {rest : List Oper} {o : Oper} {a : Act} {Q : Exit → Act → World → Prop}
theorem range_c (w : World) (hg : o.guard = none) (x : Operand) (hop : o.op = Op.range 54 x) (b : Nat) (M : Nat → Int) (hm : a.eval x = .map (some b)) (h : OwnC w b M)
    (hK : ∀ w' cnt, cnt ≤ 64 → RgC w' b w.heap.size M (fun k => decide (0 ≤ M k)) cnt → w.grownBy w' none → w'.heap.size = w.heap.size + 1 → wpList Tryd.prog ops Q rest (a.put o.dst (.pointer (some ⟨w.heap.size, 0, none⟩))) w') :
    wpList Tryd.prog ops Q (o :: rest) a w := by
  refine wpList_plain hg fun K' hK' => ?_
  obtain ⟨w', cnt, hrun, r0, r1, r2, r3⟩ := h.range
  unfold Oper.wp
  simp [execOp, hop, hm, hrun, Result.andThen]
  exact hK' _ _ (hK w' cnt r0 r1 r2 r3)
theorem len_c (w : World) (hg : o.guard = none) (x : Operand) (hop : o.op = Op.call { callee := Callee.builtin Builtin.len, args := #[x], argTypes := #[54] }) (b : Nat) (M : Nat → Int) (hm : a.eval x = .map (some b)) (h : OwnC w b M)
    (hK : ∀ n : Nat, n ≤ 64 → wpList Tryd.prog ops Q rest (a.put o.dst (.int .i64 (n : Int))) w) :
    wpList Tryd.prog ops Q (o :: rest) a w := by
  refine wpList_plain hg fun K' hK' => ?_
  obtain ⟨n, hn, hrun⟩ := h.len o.type
  unfold Oper.wp
  simp [execOp, hop, resolve, invoke, builtin, hm, hrun, Result.andThen]
  exact hK' _ _ (hK n hn)
end
theorem RgC.far {w : World} {b r g : Nat} {M : Nat → Int} {left : Nat → Bool} {cnt : Nat} (h : RgC w b r M left cnt) {cs : Array Value} {t : TypeId} {fr : Nat × Nat} (hg : w.heap[g]? = some (.cells cs t fr)) : g ≠ r ∧ g ≠ b := by
  obtain ⟨D, lf, ⟨es, clock, since, seen, c0, hb, _, _, _, hr, _⟩, _⟩ := h
  constructor
  · intro e; rw [e, hr] at hg; cases hg
  · intro e; rw [e, hb] at hg; cases hg
/-- who is in the list so far. -/
def InL (M : Nat → Int) (left : Nat → Bool) (L : List Dm) : Prop := ∀ d, d ∈ L ↔ ∃ k, k < 64 ∧ 0 ≤ M k ∧ left k = false ∧ d = dm2 k (M k).toNat
theorem InL.none (M : Nat → Int) : InL M (fun k => decide (0 ≤ M k)) [] := fun d => ⟨fun h => (by cases h), fun ⟨k, _, h0, h1, _⟩ => (by rw [decide_eq_false_iff_not] at h1; exact absurd h0 h1)⟩
theorem InL.snoc {M : Nat → Int} {left : Nat → Bool} {L : List Dm} (h : InL M left L) {k : Nat} (hk : k < 64) (h0 : 0 ≤ M k) : InL M (fun z => left z && !decide (z = k)) (L ++ [dm2 k (M k).toNat]) := fun d => by
  rw [List.mem_append, List.mem_singleton, h d]
  constructor
  · rintro (⟨z, a, b, c, e⟩ | rfl)
    · exact ⟨z, a, b, by simp [c], e⟩
    · exact ⟨k, hk, h0, by simp, rfl⟩
  · rintro ⟨z, a, b, c, e⟩
    by_cases q : z = k
    · subst q; exact .inr e
    · refine .inl ⟨z, a, b, ?_, e⟩
      simpa [q] using c

end Go.Proofs.YtgkgdgchkhdgjaaDoor.Mat

/- The greatest list, black cell after black cell, pure: what a table that has both places of each domino says. -/
namespace Go.Proofs.YtgkgdgchkhdgjaaDoor.Mat
set_option linter.unusedVariables false
set_option linter.unusedSimpArgs false
open Go.RowKit Go.Proofs.YtgkgdgchkhdgjaaDoor.Base Go.Proofs.YtgkgdgchkhdgjaaDoor.Pure Go.Proofs.YtgkgdgchkhdgjaaDoor.Cell Go.Proofs.YtgkgdgchkhdgjaaDoor.Dom Go.Proofs.YtgkgdgchkhdgjaaDoor.Dms Go.Proofs.YtgkgdgchkhdgjaaDoor.Sets Go.Proofs.YtgkgdgchkhdgjaaDoor.Kun Go.Proofs.YtgkgdgchkhdgjaaDoor.KuL Go.Proofs.YtgkgdgchkhdgjaaDoor.Til Go.Joins
open Go.Proofs.YtgkgdgchkhdgjaaDoor.Cnt (adj gR idxs idxs_cells)

/-- the places of a region's cells, in order. -/
def idl (xs : List Int) : List Nat := if okRB xs then idxs xs else []
theorem idl_cells (xs : List Int) : cellsR xs = (idl xs).map plc := by
  unfold idl
  by_cases ho : okR xs
  · rw [if_pos (okRB_iff.2 ho), cellsR_ok ho, idxs_cells]; rfl
  · rw [if_neg (fun h => ho (okRB_iff.1 h)), cellsR_not ho]; rfl
theorem idl_mem {xs : List Int} {v : Nat} (h : v ∈ idl xs) : v < 64 ∧ gR xs v = true ∧ okR xs := by
  unfold idl at h
  by_cases ho : okR xs
  · rw [if_pos (okRB_iff.2 ho)] at h
    unfold idxs at h
    rw [List.mem_filter, List.mem_range] at h
    exact ⟨h.1, h.2, ho⟩
  · rw [if_neg (fun h => ho (okRB_iff.1 h))] at h; cases h
theorem idl_nodup (xs : List Int) : (idl xs).Nodup := by
  unfold idl
  split
  · exact List.Pairwise.filter _ List.nodup_range
  · exact List.nodup_nil
/-- the black ones of the first t. -/
def bls (xs : List Int) (t : Nat) : List Nat := ((idl xs).take t).filter col
theorem bls_no {xs : List Int} {t : Nat} (ht : t < (idl xs).length) (h : col (idl xs)[t] = false) : bls xs (t + 1) = bls xs t := by
  unfold bls; rw [List.take_succ_eq_append_getElem ht, List.filter_append]; simp [h]
theorem bls_yes {xs : List Int} {t : Nat} (ht : t < (idl xs).length) (h : col (idl xs)[t] = true) : bls xs (t + 1) = bls xs t ++ [(idl xs)[t]] := by
  unfold bls; rw [List.take_succ_eq_append_getElem ht, List.filter_append]; simp [h]
/-- what is joined behind the first t. -/
def jT (xs : List Int) (t : Nat) : Nat → Int := allF (gR xs) 66 (bls xs t) (fun _ => -1)
theorem jT_mc (xs : List Int) (t : Nat) : Mc (gR xs) col (fun u => decide (u ∈ bls xs t)) (jT xs t) := by
  have h := max_all (g := gR xs) (col := col) col_adj (f := 66) (by omega) (bls xs t) (fun _ => false) (fun _ => -1) (max_start _ _) (by unfold bls; exact List.Pairwise.filter _ ((idl_nodup xs).sublist (List.take_sublist _ _))) (fun v hv => by
    unfold bls at hv
    rw [List.mem_filter] at hv
    obtain ⟨a, b, _⟩ := idl_mem (List.mem_of_mem_take hv.1)
    exact ⟨a, b, hv.2, rfl⟩)
  have e : (fun u => (fun _ => false) u || decide (u ∈ bls xs t)) = fun u => decide (u ∈ bls xs t) := by funext u; simp
  rw [e] at h
  exact h.1
theorem jT_free {xs : List Int} {t : Nat} (ht : t < (idl xs).length) : ∀ k, jT xs t k ≠ (((idl xs)[t] : Nat) : Int) := fun k e => by
  have h := (jT_mc xs t).bl k (by omega)
  rw [e, Int.toNat_natCast, decide_eq_true_eq] at h
  unfold bls at h
  have h := (List.mem_filter.1 h).1
  obtain ⟨j, hj, e⟩ := List.getElem_of_mem h
  rw [List.length_take] at hj
  rw [List.getElem_take] at e
  exact List.pairwise_iff_getElem.1 (idl_nodup xs) j t (by omega) ht (by omega) e
theorem jT_no {xs : List Int} {t : Nat} (ht : t < (idl xs).length) (h : col (idl xs)[t] = false) : jT xs (t + 1) = jT xs t := by unfold jT; rw [bls_no ht h]
theorem jT_yes {xs : List Int} {t : Nat} (ht : t < (idl xs).length) (h : col (idl xs)[t] = true) : jT xs (t + 1) = (findF (gR xs) 66 (jT xs t) (fun _ => false) (idl xs)[t]).2.1 := by unfold jT; rw [bls_yes ht h, allF_snoc]
theorem jT_zero (xs : List Int) : jT xs 0 = fun _ => -1 := rfl
/-- the search from the next black cell. -/
theorem next_search {xs : List Int} {t : Nat} {M : Nat → Int} (ht : t < (idl xs).length) (h : col (idl xs)[t] = true) (hM : Mir col (jT xs t) M) :
    ∃ R, Run (gR xs) M [(idl xs)[t]] (fun _ => false) R ∧ (R = none → Mir col (jT xs (t + 1)) M) ∧ ∀ S i, R = some (S, i) → i < 64 ∧ (∀ u ∈ S, u < 64) ∧ S ≠ [] ∧ Mir col (jT xs (t + 1)) (exM S i M) := by
  obtain ⟨v64, vg, _⟩ := idl_mem (List.getElem_mem ht)
  obtain ⟨R, h1, h2, h3⟩ := search col_adj (jT_mc xs t).mt hM v64 h (jT_free ht)
  refine ⟨R, Mat.Run.congr col_adj (jT_mc xs t).mt hM.wh h1 (fun u hu => by rw [List.mem_singleton.1 hu]; exact ⟨v64, h⟩), fun hR => ?_, fun S i hR => ?_⟩
  · rw [jT_yes ht h, h2 hR]; exact hM
  · obtain ⟨a, _, b, c, d⟩ := h3 S i hR
    exact ⟨a, b, c, by rw [jT_yes ht h]; exact d⟩
theorem mir_rn {xs : List Int} {t : Nat} {M : Nat → Int} (hM : Mir col (jT xs t) M) : Rn M := fun k => by
  by_cases h : 0 ≤ M k
  · have := (hM.rng (jT_mc xs t).mt h).2.2.1; omega
  · omega
theorem mir_adj {xs : List Int} {t : Nat} {M : Nat → Int} (hM : Mir col (jT xs t) M) {k : Nat} (h : 0 ≤ M k) : adj k (M k).toNat = true := (hM.rng (jT_mc xs t).mt h).2.2.2.2.1
theorem dm2_comm {a u : Nat} (h : a ≠ u) : dm2 a u = dm2 u a := by
  unfold dm2
  by_cases e : a < u
  · rw [if_pos e, if_neg (by omega)]
  · rw [if_neg e, if_pos (by omega)]
theorem jT_end {xs : List Int} (ho : okR xs) : jT xs (idl xs).length = joined xs := by
  unfold jT joined bls
  rw [List.take_length]
  unfold idl
  rw [if_pos (okRB_iff.2 ho)]
  unfold idxs blks
  rw [List.filter_filter]
  congr 1
  refine List.filter_congr (fun x _ => ?_)
  unfold Blk
  exact Bool.and_comm _ _
theorem matchR_ok {xs : List Int} (ho : okR xs) : matchR xs = sortM (dmsJ (jT xs (idl xs).length)) := by
  unfold matchR; rw [if_pos (okRB_iff.2 ho), jT_end ho]
theorem matchR_not {xs : List Int} (ho : ¬ okR xs) : matchR xs = [] := by
  unfold matchR; rw [if_neg (fun h => ho (okRB_iff.1 h))]
/-- the dominoes of the first k places. -/
def dmsT (J : Nat → Int) (k : Nat) : List Dm := ((List.range k).filter fun i => decide (0 ≤ J i)).map fun i => dm2 i (J i).toNat
theorem dmsT_all (J : Nat → Int) : dmsT J 64 = dmsJ J := rfl
theorem dmsT_yes {J : Nat → Int} {k : Nat} (h : 0 ≤ J k) : dmsT J (k + 1) = dmsT J k ++ [dm2 k (J k).toNat] := by
  unfold dmsT; rw [List.range_succ, List.filter_append, List.map_append]; simp [h]
theorem dmsT_no {J : Nat → Int} {k : Nat} (h : J k < 0) : dmsT J (k + 1) = dmsT J k := by
  unfold dmsT; rw [List.range_succ, List.filter_append, List.map_append]; simp; omega
theorem dmsT_length (J : Nat → Int) (k : Nat) : (dmsT J k).length ≤ k := by
  unfold dmsT; rw [List.length_map]; exact Nat.le_trans (List.length_filter_le _ _) (by rw [List.length_range]; exact Nat.le_refl _)
/-- the list in order is the greatest list. -/
theorem end_list {xs : List Int} {M : Nat → Int} (hM : Mir col (jT xs (idl xs).length) M) {L : List Dm} (hL : InL M (fun _ => false) L) : sortM L = matchR xs := by
  have hmem : ∀ d, d ∈ L ↔ d ∈ dmsJ (jT xs (idl xs).length) := fun d => by
    rw [hL d]
    unfold dmsJ
    rw [List.mem_map]
    constructor
    · rintro ⟨k, hk, h0, _, rfl⟩
      cases hc : col k with
      | false => exact ⟨k, mem_js.2 ⟨hk, by rw [← hM.wh k hc]; exact h0⟩, by rw [hM.wh k hc]⟩
      | true =>
        obtain ⟨_, _, i64, _, ha, _⟩ := hM.rng (jT_mc xs _).mt h0
        have e := (hM.bl k hc (M k).toNat).1 (Int.toNat_of_nonneg h0).symm
        refine ⟨(M k).toNat, mem_js.2 ⟨i64, by rw [e]; omega⟩, ?_⟩
        rw [e, Int.toNat_natCast]
        refine dm2_comm (fun q => ?_)
        rw [q, Cnt.adj_iff] at ha
        omega
    · rintro ⟨i, hi, rfl⟩
      obtain ⟨i64, h0⟩ := mem_js.1 hi
      have hc := ((jT_mc xs (idl xs).length).mt.ok i h0).2.2.1
      exact ⟨i, i64, by rw [hM.wh i hc]; exact h0, rfl, by rw [hM.wh i hc]⟩
  have hs : sortM L = sortM (dmsJ (jT xs (idl xs).length)) := by
    refine sortM_of (sortM_good _).1 (fun e => ?_)
    rw [(sortM_good _).2, hmem]
  rw [hs]
  unfold matchR
  by_cases ho : okR xs
  · rw [if_pos (okRB_iff.2 ho)]
    have : jT xs (idl xs).length = joined xs := by
      unfold jT joined bls
      rw [List.take_length]
      unfold idl
      rw [if_pos (okRB_iff.2 ho)]
      unfold idxs blks
      rw [List.filter_filter]
      congr 1
      refine List.filter_congr (fun x _ => ?_)
      unfold Blk
      exact Bool.and_comm _ _
    rw [this]
  · rw [if_neg (fun h => ho (okRB_iff.1 h))]
    have : idl xs = [] := by unfold idl; rw [if_neg (fun h => ho (okRB_iff.1 h))]
    rw [this]
    rfl
end Go.Proofs.YtgkgdgchkhdgjaaDoor.Mat

/- The search of a way, the program's. -/
namespace Go.Proofs.YtgkgdgchkhdgjaaDoor.Mat
set_option linter.unusedVariables false
set_option linter.unusedSimpArgs false
set_option maxRecDepth 100000
open Go.RowKit Go.Proofs.YtgkgdgchkhdgjaaDoor.Base Go.Proofs.YtgkgdgchkhdgjaaDoor.Pure Go.Proofs.YtgkgdgchkhdgjaaDoor.Cell Go.Proofs.YtgkgdgchkhdgjaaDoor.Dom Go.Proofs.YtgkgdgchkhdgjaaDoor.Sets Go.Proofs.YtgkgdgchkhdgjaaDoor.Kun Go.Proofs.YtgkgdgchkhdgjaaDoor.Til Go.Joins
open Go.Proofs.YtgkgdgchkhdgjaaDoor.Cnt (adj gR)
open Go.Proofs.YtgkgdgchkhdgjaaDoor.Nb (rowC NbPost nbTo cellInfo)
open Go.Proofs.YtgkgdgchkhdgjaaDoor.Reg hiding Yes add_none RC rc_start

/-- what a search returns. -/
def WayPost (R : Option (List Nat × Nat)) (w : World) (e : Ending) (w' : World) : Prop :=
  Below w.heap.size w w' ∧ match R with
  | none => e = .returned (.tuple #[.slice none 0 0, .agg #[.int .i64 0, .int .i64 0], .bool false])
  | some (S, i) => ∃ g cap, e = .returned (.tuple #[.slice (some ⟨g, 0, none⟩) S.length cap, .agg #[.int .i64 (plc i).1, .int .i64 (plc i).2], .bool true]) ∧ w'.ownsRow w.heap.size 33 2 (.slice (some ⟨g, 0, none⟩) S.length cap) S.length (rowS S) ∧ S.length ≤ 65

set_option maxHeartbeats 4000000 in
theorem iWayFrom (w : World) (A : Option Addr) (n cap B : Nat) (xs : List Int) (hx : xs.length = n) (hn : (n : Int) ≤ 9223372036854775807) (h : RowB w B A xs) (hB : B ≤ w.heap.size) (ho : okR xs)
    (m : Nat) (M : Nat → Int) (hM : OwnC w m M) (hR : Rn M) (v0 : Nat) (hv0 : v0 < 64) (R : Option (List Nat × Nat)) (hrun : Run (gR xs) M [v0] (fun _ => false) R) :
    Calls Tryd.prog 57 #[.map (some m), .agg #[.slice A n cap], .agg #[.int .i64 (plc v0).1, .int .i64 (plc v0).2]] w (WayPost R w) := by
  obtain ⟨i0, hi, hz0, hz1, hz2⟩ := info_parts cellInfo
  have HH := Lib.hid (fun W (hb : Below w.heap.size w W) k (hk : k < 64) => reg_plc ho hk ▸ iHasCell W A n cap B xs hx hn (h.below hb hB) (by have := hb.size; omega) (plc k).1 (plc k).2)
  have HT := Lib.hid (fun x (hx : x < 18446744073709551616) k (hk : k < 64) W => has_plc (x := x) hk ▸ iHas x hx (plc k).1 (plc k).2 W)
  have HN := Lib.hid (fun v (hv : v < 64) W => nb_is hv ▸ Nb.implNb (plc v).1 (plc v).2 W)
  have HL := Lib.hid (fun W (hb : Below w.heap.size w W) k (hk : k < 64) => (hM.on hb).look hk)
  have HR := Lib.hid hR
  have HRun := Lib.hid hrun
  have HV := Lib.hid hv0
  clear hx hn h hB ho hM hR hrun hv0
  generalize gR xs = g at HH HRun
  have hz : (((w.alloc (.cells #[.slice A n cap] 26)).alloc (.cells #[.int .i64 (plc v0).1, .int .i64 (plc v0).2] 33)).alloc (.cells #[.int .i64 0, .int .i64 0] 33)).heap.size = w.heap.size + 3 := by simp
  have S0 : WS w (.slice A n cap) (((w.alloc (.cells #[.slice A n cap] 26)).alloc (.cells #[.int .i64 (plc v0).1, .int .i64 (plc v0).2] 33)).alloc (.cells #[.int .i64 0, .int .i64 0] 33)) :=
    ⟨((below_alloc1 w _).alloc (by simp) _).alloc (by simp; omega) _, (Below.heap_alloc _ _ _ (by simp; omega)).trans ((Below.heap_alloc _ _ _ (by simp)).trans (Rg.new w _)), by omega, by have := At2.new ((w.alloc (.cells #[.slice A n cap] 26)).alloc (.cells #[.int .i64 (plc v0).1, .int .i64 (plc v0).2] 33)) 0 0; simpa using this⟩
  have V0 : At2 (((w.alloc (.cells #[.slice A n cap] 26)).alloc (.cells #[.int .i64 (plc v0).1, .int .i64 (plc v0).2] 33)).alloc (.cells #[.int .i64 0, .int .i64 0] 33)) (w.heap.size + 1) (plc v0).1 (plc v0).2 := by
    have := At2.new (w.alloc (.cells #[.slice A n cap] 26)) (plc v0).1 (plc v0).2
    rw [World.size_alloc] at this
    exact (Below.heap_alloc _ _ _ (by simp)).trans this
  obtain ⟨vx, hvx⟩ : ∃ q, q = (plc v0).1 := ⟨_, rfl⟩
  obtain ⟨vy, hvy⟩ : ∃ q, q = (plc v0).2 := ⟨_, rfl⟩
  rw [← hvx, ← hvy] at S0 V0 hz ⊢
  have HX := Lib.hid (And.intro hvx hvy)
  clear hvx hvy
  go_enter Tryd.func57, Tryd.ntmps57
  go_wp2_with fail
  go_step3
  go_upto_region 2 with fail
  generalize ((w.alloc (.cells #[.slice A n cap] 26)).alloc (.cells #[.int .i64 vx, .int .i64 vy] 33)).alloc (.cells #[.int .i64 0, .int .i64 0] 33) = W0 at S0 V0 hz ⊢
  have v00 := V0.c0
  have v01 := V0.c1
  go_wp2_with fail
  go_step3
  go_wp2_with fail
  have S1 := S0.on (below_alloc1 W0 (.cells #[.int .i64 vx, .int .i64 vy] 33))
  have O1 : (W0.alloc (.cells #[.int .i64 vx, .int .i64 vy] 33)).ownsRow (w.heap.size + 3) 33 2 (.slice (some ⟨w.heap.size + 3, 0, none⟩) 1 1) 1 (rowS [v0]) :=
    ⟨rfl, .inr ⟨w.heap.size + 3, 1, #[.int .i64 vx, .int .i64 vy], rfl, Nat.le_refl _, by rw [← hz]; exact heap_alloc_new W0 _, Nat.le_refl _, by unfold maxLen; omega, rfl, by rw [rowS_cons, ← HX.out.1, ← HX.out.2]; rfl⟩⟩
  have HS1 := Lib.hid S1
  have HO1 := Lib.hid O1
  clear S0 V0 v00 v01 S1 O1
  have hu64 : uns g (bt 0) ≤ 64 := by unfold uns; exact Nat.le_trans (List.length_filter_le _ _) (by rw [List.length_range]; exact Nat.le_refl _)
  go_loopg [9, 10] 130 (fun gk a b wr => ∃ (S : List Nat) (x g1 c : Nat), a = .int .u64 (x : Int) ∧ b = .slice (some ⟨g1, 0, none⟩) S.length c ∧ x < 18446744073709551616 ∧ Hid (Run g M S (bt x) R ∧ (∀ u ∈ S, u < 64) ∧ S.length + uns g (bt x) ≤ 65 ∧ 2 * uns g (bt x) + S.length ≤ gk) ∧ wr.ownsRow (w.heap.size + 3) 33 2 (.slice (some ⟨g1, 0, none⟩) S.length c) S.length (rowS S) ∧ WS w (.slice A n cap) wr)
  case atStart =>
    exact ⟨[v0], 0, w.heap.size + 3, 1, rfl, rfl, by omega, Lib.hid ⟨by rw [show bt 0 = fun _ => false from funext fun i => bt_zero i]; exact HRun.out, fun u hu => by rw [List.mem_singleton.1 hu]; exact HV.out, by simp; omega, by simp; omega⟩, HO1.out, HS1.out⟩
  case round =>
    clear HS1 HO1 HRun HV HX hu64 hz
    obtain ⟨S, x, g1, c, rfl, rfl, hx64, HQ, hO, hS⟩ := hrel
    cases S with
    | nil =>
      have HE := Lib.hid (Run.inv_nil HQ.out.1)
      have r0 := hS.res.c0
      have r1 := hS.res.c1
      have f0 := hS.res.f0
      have f1 := hS.res.f1
      have HS := Lib.hid hS
      clear HQ hO hS
      go_wp2
      try rw [Exit.noGoto_ret]
      have K := HS.out.res.put (a := 0) (b := 0)
      have d0 := K.c0
      have d1 := K.c1
      have hb := (HS.out.bel.setCell (p := ⟨w.heap.size + 2, 0, none⟩) (by show _ ≤ w.heap.size + 2; omega) (.int .i64 0)).setCell (p := ⟨w.heap.size + 2, 1, none⟩) (by show _ ≤ w.heap.size + 2; omega) (.int .i64 0)
      refine bodyPost_ret (v := .tuple #[.slice none 0 0, .agg #[.int .i64 0, .int .i64 0], .bool false]) (by simp [results, Tryd.results57, go_sem, d0, d1]) rfl ?_
      rw [HE.out]
      exact ⟨hb, rfl⟩
    | cons v S =>
      obtain ⟨q1, q2, q3, q4⟩ := HQ.out
      have hv := q2 v List.mem_cons_self
      have hlen : (v :: S).length = S.length + 1 := rfl
      rw [hlen] at hO q3 q4 ⊢
      have HNv := Lib.hid (fun W => HN.out v hv W)
      have hrow := rowS_cons v S
      have e0 : (rowS (v :: S))[S.length * 2]? = some (.int .i64 (plc v).1) := by rw [hrow, List.getElem?_append_right (by rw [rowS_length]; omega), rowS_length]; simp
      have e1 : (rowS (v :: S))[S.length * 2 + 1]? = some (.int .i64 (plc v).2) := by rw [hrow, List.getElem?_append_right (by rw [rowS_length]; omega), rowS_length]; simp
      have c0 := (hO.cellAt (S.length * 2) (by omega)).trans e0
      have c1 := (hO.cellAt (S.length * 2 + 1) (by omega)).trans e1
      have HI := Lib.hid (Run.inv q1)
      have HQ2 := Lib.hid (And.intro q2 (And.intro q3 q4))
      have hl65 : S.length ≤ 64 := by omega
      obtain ⟨ux, hux⟩ : ∃ q, q = (plc v).1 := ⟨_, rfl⟩
      obtain ⟨uy, huy⟩ : ∃ q, q = (plc v).2 := ⟨_, rfl⟩
      rw [← hux] at c0 HNv
      rw [← huy] at c1 HNv
      have HU := Lib.hid (And.intro hux huy)
      have HO := Lib.hid hO
      have HS := Lib.hid hS
      clear HQ q1 q2 q3 q4 hrow e0 e1 hux huy hlen hO hS
      generalize hSl : S.length = t at *
      have HT' := Lib.hid hSl
      clear hSl
      go_wp2_with fail
      refine (HNv.out _).mono ?_
      rintro e w1 ⟨A1, cap1, rfl, hown1, hb1⟩
      have S1 := HS.out.on hb1
      have O1 := Reg.own_below HO.out hb1 (Nat.le_refl _)
      obtain ⟨b1, off1, hA1, hR1⟩ := Nb.rowC_own hown1
      rw [List.length_map] at hA1
      rw [List.length_map]
      have hN4 : (nbN v).length ≤ 4 := nb_len ⟨v, hv⟩
      have HR1 := Lib.hid (fun k (hk : k < (nbN v).length) => hR1 k (plc (nbN v)[k]) (by rw [List.getElem?_map, List.getElem?_eq_getElem hk]; rfl))
      have HF1 := Lib.hid (fun k (hk : k < (nbN v).length) h hx => fst_here (g := g) (Z := bt x) (v := v) (k := k) hk h hx)
      have HF0 := Lib.hid (fun h => fst_none (g := g) (Z := bt x) (v := v) h)
      have H64 := Lib.hid (fun k (hk : k < (nbN v).length) => (mem_nbN.1 (List.getElem_mem hk)).1)
      have HA1 := Lib.hid hA1
      clear hown1 hb1 hR1 hA1 HNv HS HO c0 c1
      generalize nbN v = N at *
      obtain ⟨L, hL⟩ : ∃ L, L = N.length := ⟨_, rfl⟩
      rw [← hL] at hN4 ⊢
      have HLN := Lib.hid hL
      clear hL
      have HS1 := Lib.hid S1
      have HO1 := Lib.hid O1
      clear S1 O1
      go_wp2_with fail
      go_loopg [9, 10, 28] L (fun g2 a b i wr => ∃ k : Nat, k + g2 = L ∧ i = .int .i64 k ∧ a = .int .u64 (x : Int) ∧ b = .slice (some ⟨g1, 0, none⟩) (t + 1) c ∧ Hid (∀ j (hj : j < N.length), j < k → (g N[j] && !bt x N[j]) = false) ∧ Below w1.heap.size w1 wr ∧ wr.ownsRow (w.heap.size + 3) 33 2 (.slice (some ⟨g1, 0, none⟩) (t + 1) c) (t + 1) (rowS (v :: S)) ∧ WS w (.slice A n cap) wr)
      case atStart => exact ⟨0, by omega, rfl, rfl, rfl, Lib.hid (fun j _ hj => absurd hj (by omega)), Below.refl _ _, HO1.out, HS1.out⟩
      case round =>
        clear HS1 HO1
        obtain ⟨k, hkL, rfl, rfl, rfl, HK, hbk, hO, hS⟩ := hrel
        by_cases hlt : k < L
        · have hkN : k < N.length := by rw [← HLN.out]; exact hlt
          obtain ⟨eA, hbl⟩ := HA1.out (by omega)
          subst eA
          obtain ⟨c0, c1⟩ := HR1.out k hkN
          have c0 := (hbk.cell (p := ⟨b1, off1 + k * 2, none⟩) hbl).trans c0
          have c1 := (hbk.cell (p := ⟨b1, off1 + k * 2 + 1, none⟩) hbl).trans c1
          have hi64 := H64.out k hkN
          have HFk := Lib.hid (HF1.out k hkN)
          have HKn := Lib.hid (fun (hs : (g N[k] && !bt x N[k]) = false) => show ∀ j (hj : j < N.length), j < k + 1 → (g N[j] && !bt x N[j]) = false from fun j hj hjk => by
            by_cases e : j = k
            · subst e; exact hs
            · exact HK.out j hj (by omega))
          generalize N[k] = i at c0 c1 hi64 HFk HKn
          have HHi := Lib.hid (fun W hb => HH.out W hb i hi64)
          have HTi := Lib.hid (fun W => HT.out x hx64 i hi64 W)
          have HLi := Lib.hid (fun W hb => HL.out W hb i hi64)
          obtain ⟨ix, hix⟩ : ∃ q, q = (plc i).1 := ⟨_, rfl⟩
          obtain ⟨iy, hiy⟩ : ∃ q, q = (plc i).2 := ⟨_, rfl⟩
          have HIx := Lib.hid (And.intro hix hiy)
          rw [← hix] at c0 HHi HTi
          rw [← hiy] at c1 HHi HTi
          clear hix hiy
          have S2 := hS.on (below_alloc1 wr (.cells #[.int .i64 ix, .int .i64 iy] 33))
          have O2 := Reg.own_below hO (below_alloc1 wr (.cells #[.int .i64 ix, .int .i64 iy] 33)) (Nat.le_refl _)
          have B2 := hbk.trans ((below_alloc1 wr (.cells #[.int .i64 ix, .int .i64 iy] 33)).mono hbk.size)
          have Z2 := At2.new wr ix iy
          go_upto_region 7 with fail
          generalize wr.alloc (.cells #[.int .i64 ix, .int .i64 iy] 33) = W2 at S2 O2 B2 Z2 ⊢
          generalize wr.heap.size = zb at Z2 ⊢
          clear c0 c1 hO hS hbk
          have d0 := Z2.c0
          have d1 := Z2.c1
          have r2 := S2.box.c0
          go_wp2_with fail
          refine (HHi.out _ S2.bel).mono ?_
          rintro e w3 ⟨rfl, hb3⟩
          have S3 := S2.on hb3
          have O3 := Reg.own_below O2 hb3 (Nat.le_refl _)
          have B3 := B2.trans (hb3.mono B2.size)
          have Z3 := Z2.on hb3
          clear S2 O2 B2 Z2 d0 d1 r2 hb3 HHi
          have d0 := Z3.c0
          have d1 := Z3.c1
          cases hgi : g i with
          | false =>
            have HK2 := Lib.hid (HKn.out (by rw [hgi]; rfl))
            clear HKn HFk hgi HTi HLi HK
            go_wp2
            go_roundg (gk - 1)
            case measure => omega
            case rel => exact ⟨k + 1, by omega, by go_num, rfl, rfl, HK2, B3, O3, S3⟩
          | true =>
            go_wp2_with fail
            refine (HTi.out _).mono ?_
            rintro e w4 ⟨rfl, hb4⟩
            have S4 := S3.on hb4
            have O4 := Reg.own_below O3 hb4 (Nat.le_refl _)
            have B4 := B3.trans (hb4.mono B3.size)
            have Z4 := Z3.on hb4
            clear S3 O3 B3 Z3 d0 d1 hb4 HTi
            have d0 := Z4.c0
            have d1 := Z4.c1
            cases hzi : bt x i with
            | true =>
              have HK2 := Lib.hid (HKn.out (by rw [hgi, hzi]; rfl))
              clear HKn HFk hgi hzi HLi HK
              go_wp2
              go_roundg (gk - 1)
              case measure => omega
              case rel => exact ⟨k + 1, by omega, by go_num, rfl, rfl, HK2, B4, O4, S4⟩
            | false =>
              have HF := Lib.hid (show fstN g (bt x) v = some i from HFk.out HK.out (by rw [hgi, hzi]; rfl))
              have R5 : RdC (w4.alloc (.cells #[.int .i64 ix, .int .i64 iy] 33)) w4.heap.size 0 [(ix, iy)] := by
                have N := At2.new w4 ix iy
                refine ⟨fun _ => N.lt, fun j p hp => ?_⟩
                cases j with
                | zero => simp at hp; subst hp; exact ⟨by simp, by simp⟩
                | succ j => simp at hp
              have HSt := Lib.hid (fun cp => iSetOf _ (some ⟨w4.heap.size, 0, none⟩) 1 cp w4.heap.size 0 [(ix, iy)] [i] (by rw [HIx.out.1, HIx.out.2]; rfl) (fun j hj => by rw [List.mem_singleton.1 hj]; exact hi64) rfl (by omega) (fun _ => rfl) R5)
              have hs1 : setN [i] = 2 ^ i := by unfold setN; simp
              rw [hs1] at HSt
              have hor := u64_or_nat x (2 ^ i) hx64 (one_lt hi64)
              have HBt := Lib.hid (And.intro (bt_or (x := x) hi64) (or_lt hx64 (one_lt hi64)))
              obtain ⟨y, hy⟩ : ∃ y, y = x ||| 2 ^ i := ⟨_, rfl⟩
              rw [← hy] at hor HBt
              obtain ⟨tp, htp⟩ : ∃ q : Int, q = ((2 ^ i : Nat) : Int) := ⟨_, rfl⟩
              have HSt := Lib.hid (fun c => by have := HSt.out c; unfold SetE at this; rw [← htp] at this; exact this)
              rw [← htp] at hor
              clear R5 hs1 hy htp HKn HFk hgi hzi HK
              have S5 := S4.on (below_alloc1 w4 (.cells #[.int .i64 ix, .int .i64 iy] 33))
              have O5 := Reg.own_below O4 (below_alloc1 w4 (.cells #[.int .i64 ix, .int .i64 iy] 33)) (Nat.le_refl _)
              have Z5 := Z4.on (below_alloc1 w4 (.cells #[.int .i64 ix, .int .i64 iy] 33))
              clear S4 O4 B4 Z4
              go_wp2_with fail
              refine (HSt.out _).mono ?_
              rintro e w6 ⟨rfl, hb6⟩
              have S6 := S5.on hb6
              have O6 := Reg.own_below O5 hb6 (Nat.le_refl _)
              have Z6 := Z5.on hb6
              clear S5 O5 Z5 d0 d1 hb6 HSt
              have d0 := Z6.c0
              have d1 := Z6.c1
              have hlk := HLi.out w6 S6.bel
              unfold cV at hlk
              obtain ⟨jx, hjx⟩ : ∃ q, q = (plc (M i).toNat).1 := ⟨_, rfl⟩
              obtain ⟨jy, hjy⟩ : ∃ q, q = (plc (M i).toNat).2 := ⟨_, rfl⟩
              have HJ := Lib.hid (And.intro hjx hjy)
              rw [show ((i % 8 : Nat) : Int) = ix from HIx.out.1.symm, show ((i / 8 : Nat) : Int) = iy from HIx.out.2.symm, show (((M i).toNat % 8 : Nat) : Int) = jx from hjx.symm, show (((M i).toNat / 8 : Nat) : Int) = jy from hjy.symm] at hlk
              clear hjx hjy
              have S7 := S6.on (below_alloc1 w6 (.cells #[.int .i64 jx, .int .i64 jy] 33))
              have O7 := Reg.own_below O6 (below_alloc1 w6 (.cells #[.int .i64 jx, .int .i64 jy] 33)) (Nat.le_refl _)
              have Z7 := Z6.on (below_alloc1 w6 (.cells #[.int .i64 jx, .int .i64 jy] 33))
              have J7 := At2.new w6 jx jy
              clear S6 O6 Z6
              by_cases hneg : M i < 0
              · have HRs := Lib.hid (show R = some (v :: S, i) by
                  rcases HI.out with ⟨e, _⟩ | ⟨i', e, h'⟩
                  · rw [HF.out] at e; cases e
                  · rw [HF.out] at e; cases e
                    rcases h' with ⟨_, h'⟩ | ⟨h', _⟩
                    · exact h'
                    · omega)
                rw [decide_eq_false (by omega)] at hlk
                clear hneg
                go_upto_region 11 with fail
                generalize w6.alloc (.cells #[.int .i64 jx, .int .i64 jy] 33) = W7 at S7 O7 Z7 J7 ⊢
                have d0 := Z7.c0
                have d1 := Z7.c1
                have f0 := S7.res.f0
                have f1 := S7.res.f1
                have r0 := S7.res.c0
                have r1 := S7.res.c1
                clear hlk hor HJ J7 HLi HI HF HBt
                have HO7 := Lib.hid O7
                have HS7 := Lib.hid S7
                have HRx := Lib.hid HRs.out
                go_region
                go_wp2
                try rw [Exit.noGoto_ret]
                have K := HS7.out.res.put (a := ix) (b := iy)
                have hb := ((HS7.out.bel.setCell (p := ⟨w.heap.size + 2, 0, none⟩) (by show _ ≤ w.heap.size + 2; omega) (.int .i64 ix)).setCell (p := ⟨w.heap.size + 2, 1, none⟩) (by show _ ≤ w.heap.size + 2; omega) (.int .i64 iy)).drew
                have K : At2 ((W7.setCell ⟨w.heap.size + 2, 0, none⟩ (.int .i64 ix)).setCell ⟨w.heap.size + 2, 1, none⟩ (.int .i64 iy)).drew (w.heap.size + 2) ix iy := K
                have d0 := K.c0
                have d1 := K.c1
                have hO8 := ownsRow_setCell_below (ownsRow_setCell_below HO7.out (a := ⟨w.heap.size + 2, 0, none⟩) (by show w.heap.size + 2 < _; omega) (.int .i64 ix)) (a := ⟨w.heap.size + 2, 1, none⟩) (by show w.heap.size + 2 < _; omega) (.int .i64 iy)
                refine bodyPost_ret (v := .tuple #[.slice (some ⟨g1, 0, none⟩) (t + 1) c, .agg #[.int .i64 ix, .int .i64 iy], .bool true]) (by simp [results, Tryd.results57, go_sem, d0, d1]) rfl ?_
                rw [HRx.out]
                refine ⟨hb, g1, c, ?_, ?_, ?_⟩
                · rw [List.length_cons, HT'.out, HIx.out.1, HIx.out.2]
                · rw [List.length_cons, HT'.out]
                  exact Nb.own_base hO8 (by omega)
                · have := HQ2.out.2.1
                  rw [List.length_cons, HT'.out]
                  omega
              · have h0 : 0 ≤ M i := by omega
                rw [decide_eq_true h0] at hlk
                have HRn := Lib.hid (show Run g M ((M i).toNat :: v :: S) (put (bt x) i true) R by
                  rcases HI.out with ⟨e, _⟩ | ⟨i', e, h'⟩
                  · rw [HF.out] at e; cases e
                  · rw [HF.out] at e; cases e
                    rcases h' with ⟨h', _⟩ | ⟨_, h'⟩
                    · omega
                    · exact h')
                have hf := HF.out
                have HM := Lib.hid (show i < 64 ∧ g i = true ∧ bt x i = false from by
                  have := List.find?_some hf
                  rw [Bool.and_eq_true] at this
                  exact ⟨hi64, this.1, by have := this.2; simpa using this⟩)
                clear hneg h0 hf HI HF
                go_upto_region 12 with fail
                generalize w6.alloc (.cells #[.int .i64 jx, .int .i64 jy] 33) = W7 at S7 O7 Z7 J7 ⊢
                generalize w6.heap.size = qb at J7 ⊢
                have d0 := J7.c0
                have d1 := J7.c1
                clear hlk hor Z7 HLi
                go_wp2_with (first
                  | (at_builtin
                     go_must (refine wpList_append_own _ rfl _ _ 28 rfl (w.heap.size + 3) 33 i0 (.agg #[.int .i64 0, .int .i64 0]) 2 16 Tryd.underlying28 hi hz0 hz1 hz2 rfl (by decide) _ (t + 1) (rowS (v :: S)) rfl (O7.alloc _) ⟨W7.heap.size, 0, none⟩ 1 1 [.int .i64 jx, .int .i64 jy] rfl rfl (World.news_of_block (cs := #[.int .i64 jx, .int .i64 jy]) (t := 33) (fr := (0, 0)) (heap_alloc_new W7 _)) (by simp [Value.oneCell']) (by unfold maxLen; omega) (by omega) (by have := S7.res.lt; simp; omega) ?_)
                     intro v8 w8 hown8 hgrow8 _))
                obtain ⟨g8, c8, rfl⟩ : ∃ g8 c8, v8 = .slice (some ⟨g8, 0, none⟩) (t + 1 + 1) c8 := by
                  rcases hown8.2 with ⟨_, h⟩ | ⟨g8, c8, _, h, _⟩
                  · omega
                  · exact ⟨g8, c8, h⟩
                have hg1 := (O7.lt g1 rfl).1
                have S8 := (S7.on (below_alloc1 W7 (.cells #[.int .i64 jx, .int .i64 jy] 33))).grown hgrow8 (fun q e => by cases e; exact hg1)
                have hu := uns_put HM.out.1 HM.out.2.1 HM.out.2.2
                obtain ⟨q2, q3, q4⟩ := HQ2.out
                go_roundg (2 * uns g (put (bt x) i true) + (t + 2))
                case measure => omega
                case rel =>
                  refine ⟨(M i).toNat :: v :: S, y, g8, c8, rfl, ?_, HBt.out.2, Lib.hid ⟨by rw [HBt.out.1]; exact HRn.out, fun u hu => ?_, ?_, ?_⟩, ?_, S8⟩
                  · show _ = Value.slice _ (S.length + 1 + 1) _
                    rw [HT'.out]
                  · rcases List.mem_cons.1 hu with rfl | hu
                    · have := HR.out i; omega
                    · exact q2 u hu
                  · show S.length + 1 + 1 + _ ≤ 65
                    rw [HT'.out, HBt.out.1]; omega
                  · show _ + (S.length + 1 + 1) ≤ _
                    rw [HT'.out, HBt.out.1]; omega
                  · show World.ownsRow _ _ _ _ (.slice _ (S.length + 1 + 1) _) (S.length + 1 + 1) _
                    rw [HT'.out, rowS_cons (M i).toNat, ← HJ.out.1, ← HJ.out.2]
                    exact hown8
        · obtain rfl : k = L := by omega
          have HRn := Lib.hid (show Run g M S (bt x) R by
            have hno := HF0.out (fun j hj => HK.out j hj (by rw [HLN.out]; exact hj))
            rcases HI.out with ⟨_, h'⟩ | ⟨i', e, _⟩
            · exact h'
            · rw [hno] at e; cases e)
          have hcap : t + 1 ≤ c := by
            rcases hO.2 with ⟨h, _⟩ | ⟨_, _, _, e, _, _, h, _⟩
            · cases h
            · cases e; exact h
          have O9 := ownsRow_pop (rowS_length S |>.trans (by rw [HT'.out])) (by rw [rowS_cons] at hO; exact hO)
          have HS := Lib.hid hS
          clear HK HF0 HF1 HI hbk hO hS
          obtain ⟨q2, q3, q4⟩ := HQ2.out
          clear HQ2
          have HO9 := Lib.hid O9
          clear O9
          have HQ5 := Lib.hid (And.intro q2 (And.intro q3 q4))
          clear q2 q3 q4
          go_wp2
          go_roundg (2 * uns g (bt x) + t)
          case measure => have := HQ5.out.2.2; omega
          case rel =>
            obtain ⟨q2, q3, q4⟩ := HQ5.out
            refine ⟨S, x, g1, c, rfl, by rw [HT'.out], hx64, Lib.hid ⟨HRn.out, fun u hu => q2 u (List.mem_cons_of_mem _ hu), by rw [HT'.out]; omega, by rw [HT'.out]; exact Nat.le_refl _⟩, by rw [HT'.out]; exact HO9.out, HS.out⟩
end Go.Proofs.YtgkgdgchkhdgjaaDoor.Mat

/- slices.Backward over a slice of cells: its value goes through the cells from the last one to the first. -/
namespace Go.Proofs.YtgkgdgchkhdgjaaDoor.Mat
set_option linter.unusedVariables false
set_option linter.unusedSimpArgs false
set_option maxRecDepth 100000
open Go.RowKit Go.Shelf Go.Proofs.YtgkgdgchkhdgjaaDoor.Base Go.Proofs.YtgkgdgchkhdgjaaDoor.Kun
attribute [local go_sem] Oper.semAt_some

/-- what a round keeps: all below a block but for some. -/
structure KX (X : Nat → Prop) (n₀ : Nat) (W W' : World) : Prop where
  size : W.heap.size ≤ W'.heap.size
  block : ∀ i, i < n₀ → ¬ X i → W'.heap[i]? = W.heap[i]?
theorem KX.refl (X : Nat → Prop) (n₀ : Nat) (W : World) : KX X n₀ W W := ⟨Nat.le_refl _, fun _ _ _ => rfl⟩
theorem KX.trans {X : Nat → Prop} {n₀ : Nat} {A B C : World} (h : KX X n₀ A B) (k : KX X n₀ B C) : KX X n₀ A C := ⟨Nat.le_trans h.size k.size, fun i hi hx => (k.block i hi hx).trans (h.block i hi hx)⟩
theorem KX.of {X : Nat → Prop} {n₀ : Nat} {A B : World} {row : Option Nat} (h : A.grownBy B row) (hn : n₀ ≤ A.heap.size) (hr : ∀ r, row = some r → n₀ ≤ r ∨ X r) : KX X n₀ A B :=
  ⟨h.size, fun i hi hx => h.block i (by omega) (fun e => by
    rcases hr i e.symm with q | q
    · omega
    · exact hx q)⟩
theorem KX.putObj {X : Nat → Prop} {n₀ N : Nat} (hn : n₀ ≤ N) (W : World) (l : Nat) (o o' : Obj) (hl : N ≤ l) (h : W.heap[l]? = some o) (_ : o.isCells = false) (_ : o.isWalk = false) : KX X n₀ W (W.putObj l o') :=
  KX.of (grownBy_putObj' W l o') (by have := (Array.getElem?_eq_some_iff.1 h).1; omega) (fun r e => by cases e; exact .inl (by omega))
/-- a place with an index. -/
abbrev IP := Nat × Fin 64
def encB (x : IP) : Array Value := #[.int .i64 (x.1 : Int), cV x.2.val]
/-- the places from the last one on. -/
def backT (js : List (Fin 64)) (k : Nat) : List IP := (List.range k).map fun t => (js.length - 1 - t, js[js.length - 1 - t]?.getD 0)
theorem backT_succ (js : List (Fin 64)) (k : Nat) : backT js (k + 1) = backT js k ++ [(js.length - 1 - k, js[js.length - 1 - k]?.getD 0)] := by unfold backT; rw [List.range_succ, List.map_append]; rfl
theorem backT_length (js : List (Fin 64)) (k : Nat) : (backT js k).length = k := by unfold backT; simp
theorem backT_all (js : List (Fin 64)) : (backT js js.length).map (fun x => x.2) = js.reverse := by
  apply List.ext_getElem
  · simp [backT]
  · intro i h1 h2
    have hi : i < js.length := by simpa using h2
    unfold backT
    simp only [List.map_map, List.getElem_map, List.getElem_range, Function.comp]
    rw [List.getElem_reverse, List.getElem?_eq_getElem (by omega)]
    rfl
/-- a cell's two numbers lie in a block. -/
def CelAt (W : World) (b off k : Nat) : Prop := W.cell? ⟨b, off, none⟩ = some (.int .i64 ((k % 8 : Nat) : Int)) ∧ W.cell? ⟨b, off + 1, none⟩ = some (.int .i64 ((k / 8 : Nat) : Int))

set_option maxHeartbeats 2000000 in
theorem back1 (F : Fence) (n : Nat) (hF : F.fn 77) (hro : F.round = none) (hn : 1 ≤ n) (l Bs n₀ b off cap : Nat) (js : List (Fin 64)) (hjs : js.length ≤ 1000) (X : Nat → Prop) (hb : b < n₀) (hbX : ¬ X b) (hBn : Bs < n₀) (hBX : ¬ X Bs) (J Jx : List IP → World → Prop)
    (hY : ∀ pre x W, J pre W → pre.length < js.length → YieldAt F (n - 1) Tryd.prog l (encB x) W fun e W' =>
      (e = .returned (.bool true) ∧ J (pre ++ [x]) W' ∧ KX X n₀ W W') ∨ (e = .returned (.bool false) ∧ Jx (pre ++ [x]) W'))
    (W : World) (hBs : W.cell? ⟨Bs, 0, none⟩ = some (.slice (some ⟨b, off, none⟩) js.length cap)) (hc : ∀ j (h : j < js.length), CelAt W b (off + j * 2) js[j].val) (h0 : J [] W) :
    CallsIn F n Tryd.prog 77 #[.func (.yield l) #[] #[], .pointer (some ⟨Bs, 0, none⟩)] W fun e W' => (∃ v, e = .returned v) ∧
      ((∃ ys, ys = backT js js.length ∧ J ys W') ∨ (∃ pre, (∃ k, k ≤ js.length ∧ pre = backT js k) ∧ Jx pre W')) := by
  refine callsIn_of_wp Tryd.func77 rfl hF ?_ hro
  simp only [Tryd.ntmps77, List.size_toArray, List.length_cons, List.length_nil, Nat.reduceAdd, Nat.reduceSub, Array.replicate_succ, Array.replicate_zero, List.push_toArray, List.append_toArray, List.nil_append, List.cons_append]
  gi_wp2
  gi_loopw [3] (fun i wr => ∃ k : Nat, k ≤ js.length ∧ i = .int .i64 ((js.length : Int) - 1 - k) ∧ J (backT js k) wr ∧ KX X n₀ W wr)
    (fun i _ => (intOf i + 1).toNat)
  case atStart => exact ⟨0, Nat.zero_le _, congrArg (Value.int .i64) (by omega), h0, KX.refl _ _ _⟩
  case round =>
    obtain ⟨k, hk, rfl, hJs, hnx⟩ := hrel
    by_cases hlt : k < js.length
    · obtain ⟨i, hi⟩ : ∃ i, i = js.length - 1 - k := ⟨_, rfl⟩
      have hil : i < js.length := by omega
      have hiI : (js.length : Int) - 1 - k = (i : Int) := by omega
      have hs : backT js (k + 1) = backT js k ++ [(i, js[i])] := by rw [backT_succ, ← hi, List.getElem?_eq_getElem hil]; rfl
      obtain ⟨c0, c1⟩ := hc i hil
      have c0 := (World.cell?_of_block (a := ⟨b, off + i * 2, none⟩) (hnx.block b hb hbX)).trans c0
      have c1 := (World.cell?_of_block (a := ⟨b, off + i * 2 + 1, none⟩) (hnx.block b hb hbX)).trans c1
      have cB := (World.cell?_of_block (a := ⟨Bs, 0, none⟩) (hnx.block Bs hBn hBX)).trans hBs
      obtain ⟨fn, tmps, assign, body, hy, hR⟩ := hY (backT js k) (i, js[i]) wr hJs (by rw [backT_length]; exact hlt)
      unfold encB cV at hy
      dsimp only at hy
      rw [hiI]
      clear hY hi hc hBs
      generalize js[i].val = q at c0 c1 hy
      generalize ((q % 8 : Nat) : Int) = x at c0 hy
      generalize ((q / 8 : Nat) : Int) = y at c1 hy
      gi_wp2
      refine hR.mono ?_
      rintro e W3 (⟨rfl, hJ3, hk3⟩ | ⟨rfl, hJx3⟩)
      · gi_wp2
        go_roundw
        case rel => exact ⟨k + 1, by omega, congrArg (Value.int .i64) (by omega), by rw [hs]; exact hJ3, hnx.trans hk3⟩
        case measure => (simp [intOf] <;> omega)
      · gi_wp2
        refine bodyPost_ret (results_none rfl _ _ _) rfl ?_
        exact ⟨⟨_, rfl⟩, .inr ⟨_, ⟨k + 1, by omega, hs.symm⟩, hJx3⟩⟩
    · obtain rfl : k = js.length := by omega
      gi_wp2
      go_end0
      exact ⟨⟨_, rfl⟩, .inl ⟨_, rfl, hJs⟩⟩

set_option maxHeartbeats 1000000 in
theorem back_in (F : Fence) (n : Nat) (hF : F.fn 72) (hro : F.round = none) (a : Option Addr) (len cap : Nat) (w : World) :
    CallsIn F n Tryd.prog 72 #[.slice a len cap] w fun e w' => e = .returned (.func (.func 77) #[] #[.pointer (some ⟨w.heap.size, 0, none⟩)]) ∧ w' = w.alloc (.cells #[.slice a len cap] 28) := by
  refine callsIn_of_wp Tryd.func72 rfl hF ?_ hro
  simp only [Tryd.ntmps72, List.size_toArray, List.length_cons, List.length_nil, Nat.reduceAdd, Nat.reduceSub, Array.replicate_succ, Array.replicate_zero, List.push_toArray, List.append_toArray, List.nil_append, List.cons_append]
  gi_wp2
  go_ret
  exact ⟨rfl, rfl⟩
theorem back_stops (F : Fence) (n : Nat) (hF : F.fn 77) (hro : F.round = none) (hn : 1 ≤ n) (Bs n₀ b off cap : Nat) (js : List (Fin 64)) (hjs : js.length ≤ 1000) (X : Nat → Prop) (hb : b < n₀) (hbX : ¬ X b) (hBn : Bs < n₀) (hBX : ¬ X Bs) (w : World) (hn₀ : n₀ ≤ w.heap.size)
    (hBs : w.cell? ⟨Bs, 0, none⟩ = some (.slice (some ⟨b, off, none⟩) js.length cap)) (hc : ∀ j (h : j < js.length), CelAt w b (off + j * 2) js[j].val) :
    SeqStopsK F n Tryd.prog 77 #[.pointer (some ⟨Bs, 0, none⟩)] encB (KX X n₀) (fun ys => ys = backT js js.length) (fun pre => ∃ k, k ≤ js.length ∧ pre = backT js k) js.length w := fun l J Jx W hW _ _ hY h0 =>
  back1 F n hF hro hn l Bs n₀ b off cap js hjs X hb hbX hBn hBX J Jx hY W ((hW.cell (p := ⟨Bs, 0, none⟩) (by show Bs < _; omega)).trans hBs) (fun j h => ⟨(hW.cell (p := ⟨b, off + j * 2, none⟩) (by show b < _; omega)).trans (hc j h).1, (hW.cell (p := ⟨b, off + j * 2 + 1, none⟩) (by show b < _; omega)).trans (hc j h).2⟩) h0
end Go.Proofs.YtgkgdgchkhdgjaaDoor.Mat

/- A region that draws its order, within a round of a loop over a function: walked as one that stands outside. -/
namespace Go.Proofs.YtgkgdgchkhdgjaaDoor.Mat
set_option linter.unusedVariables false
open Go.RowKit
/-- an operation that calls nothing. -/
def Calm (P : Program) (o : Oper) : Prop := (∀ c, o.op ≠ .defer c) ∧ ∀ ρ w v w', (execOp ρ o).run P w = .ok v w' → (∃ x, v = .value x) ∨ v = .skip
theorem upon_in {F : Fence} {n : Nat} {P : Program} {o : Oper} {a : Act} {w : World} {K : Act → World → Prop} {Q : Exit → Act → World → Prop} (hF : ∀ f, F.fn f) (hc : Calm P o) (h : o.wp P a w K Q) : o.wpIn F n P a w K Q := by
  refine ⟨fun f _ => hF f, ?_⟩
  rw [Oper.semAt_eq _ _ _ hc.1]
  unfold Oper.wp at h
  cases hr : (execOp a.eval o).run P w with
  | ok v w' =>
    rw [hr] at h
    rcases hc.2 _ _ _ _ hr with ⟨x, rfl⟩ | rfl
    · exact h
    · exact h
  | halt v w' =>
    rw [hr] at h
    cases v <;> exact h
theorem any_in {F : Fence} {n : Nat} {P : Program} {md : Region.Mode} {ops : Array Oper} {Q : Exit → Act → World → Prop} (hF : ∀ f, F.fn f) (hc : ∀ (i : Nat) (o : Oper), ops[i]? = some o → Calm P o) (hQ : ¬ LetsOut Q) : ∀ (fuel : Nat) (listed : Array Bool) (a : Act) (w : World), wpAny P md ops Q fuel listed a w → wpAnyIn F n P md ops Q fuel listed a w
  | 0, listed, a, w, h => h
  | fuel + 1, listed, a, w, h => by
    refine ⟨h.1, fun i hi => ?_⟩
    have h2 := h.2 i hi
    unfold wpOp at h2
    unfold wpOpIn
    cases ho : ops[i]? with
    | none => rw [ho] at h2; exact any_in hF hc hQ fuel _ _ _ h2
    | some o =>
      rw [ho] at h2
      simp only at h2 ⊢
      by_cases hw : Region.wanted o (yielded ops a.tmps) = true
      · rw [if_pos hw] at h2 ⊢
        rcases h2 with h2 | ⟨_, h2⟩
        · exact upon_in hF (hc i o ho) (Oper.wp_mono (fun a w h => any_in hF hc hQ fuel _ a w h) h2)
        · exact absurd h2 hQ
      · rw [if_neg hw] at h2 ⊢
        exact ⟨fun f _ => hF f, any_in hF hc hQ fuel _ _ _ h2⟩
/-- ended well. -/
def Onl (Q : Exit → Act → World → Prop) : Exit → Act → World → Prop
  | .normal, a, w => Q .normal a w
  | _, _, _ => False
theorem onl_normal {Q : Exit → Act → World → Prop} {a : Act} {w : World} (h : Q .normal a w) : Onl Q .normal a w := h
theorem onl_imp {Q : Exit → Act → World → Prop} (e : Exit) (a : Act) (w : World) (h : Onl Q e a w) : Q e a w := by
  cases e <;> first | exact h | exact h.elim
/-- what is held goes for such a region, too. -/
theorem region_in {F : Fence} {n : Nat} {P : Program} {id : Nat} {ops : Array Oper} {Q : Exit → Act → World → Prop} {a : Act} {w : World} (S : World → Prop) (hm : P.follows .mixedOrders = true) (hF : ∀ f, F.fn f) (hc : ∀ (i : Nat) (o : Oper), ops[i]? = some o → Calm P o)
    (hS : S w.drew) (h : S w.drew → wpAnyH P .any ops (Onl Q) S ops.size (Array.replicate ops.size false) a w.drew) : (Code.region id ops true).wpIn F n P Q a w :=
  wpIn_mono (wpIn_region_any hm (any_in hF hc (fun h => by obtain ⟨_, _, h⟩ := h; exact h) _ _ _ _ (wpAny_of_held _ _ _ _ (h hS)))) onl_imp
theorem calm_load {P : Program} {o : Oper} {t : TypeId} {x : Operand} (h : o.op = .load t x) : Calm P o := by
  refine ⟨fun c => (by rw [h]; intro e; cases e), fun ρ w v w' hr => ?_⟩
  simp only [execOp, h] at hr
  generalize Instr.loadAt t (ρ x) = p at hr
  simp only [Sem.run_bind, Sem.run_pure] at hr
  cases hp : p.run P w with
  | ok y u => rw [hp] at hr; simp [Result.andThen] at hr; exact .inl ⟨_, hr.1.symm⟩
  | halt y u => rw [hp] at hr; simp [Result.andThen] at hr
theorem calm_put {P : Program} {o : Oper} {t : TypeId} {m x v : Operand} (h : o.op = .mapUpdate t m x v) : Calm P o := by
  refine ⟨fun c => (by rw [h]; intro e; cases e), fun ρ w y w' hr => ?_⟩
  simp only [execOp, h] at hr
  generalize Instr.mapUpdate t (ρ m) (ρ x) (ρ v) = p at hr
  simp only [Sem.run_bind, Sem.run_pure] at hr
  cases hp : p.run P w with
  | ok y u => rw [hp] at hr; simp [Result.andThen] at hr; exact .inr hr.1.symm
  | halt y u => rw [hp] at hr; simp [Result.andThen] at hr
end Go.Proofs.YtgkgdgchkhdgjaaDoor.Mat

/- Dominoes exchanged along a way, the program's: from the last black cell of the way to the first. -/
namespace Go.Proofs.YtgkgdgchkhdgjaaDoor.Mat
set_option linter.unusedVariables false
set_option linter.unusedSimpArgs false
set_option maxRecDepth 100000
open Go.RowKit Go.Shelf Go.Proofs.YtgkgdgchkhdgjaaDoor.Base Go.Proofs.YtgkgdgchkhdgjaaDoor.Kun Go.Proofs.YtgkgdgchkhdgjaaDoor.Dom
attribute [local go_sem] Oper.semAt_some

/-- the exchange, one black place after the other. -/
def exS (p : Nat × (Nat → Int)) (v : Nat) : Nat × (Nat → Int) := ((p.2 v).toNat, put (put p.2 v (p.1 : Int)) p.1 (v : Int))
theorem exM_fold : ∀ (vs : List Nat) (i : Nat) (M : Nat → Int), exM vs i M = (vs.foldl exS (i, M)).2
  | [], i, M => rfl
  | v :: vs, i, M => exM_fold vs _ _
theorem Rn.ex {p : Nat × (Nat → Int)} (h : Rn p.2) (hp : p.1 < 64) {v : Nat} (hv : v < 64) : Rn (exS p v).2 ∧ (exS p v).1 < 64 := by
  refine ⟨fun k => ?_, by show (p.2 v).toNat < 64; have := h v; omega⟩
  show put (put p.2 v (p.1 : Int)) p.1 (v : Int) k < 64
  by_cases e : k = p.1
  · rw [e, put_at]; omega
  · rw [put_ne e]
    by_cases e2 : k = v
    · rw [e2, put_at]; omega
    · rw [put_ne e2]; exact h k
/-- the state between two rounds. -/
structure EX (w : World) (m : Nat) (s : Nat × (Nat → Int)) (W : World) : Prop where
  grown : w.grownBy W (some m)
  big : w.heap.size + 3 ≤ W.heap.size
  bp : W.heap[w.heap.size]? = some (.cells #[.map (some m)] 54 (0, 0))
  bw : At2 W (w.heap.size + 1) ((s.1 % 8 : Nat) : Int) ((s.1 / 8 : Nat) : Int)
  own : OwnC W m s.2
  rn : Rn s.2
  lt : s.1 < 64
theorem cellOf {W : World} {B : Nat} {v : Value} {t : TypeId} (h : W.heap[B]? = some (.cells #[v] t (0, 0))) : W.cell? ⟨B, 0, none⟩ = some v := by simp [World.cell?, h]
def sAt (i0 : Nat) (M0 : Nat → Int) (pre : List IP) : Nat × (Nat → Int) := (pre.map fun x => x.2.val).foldl exS (i0, M0)
theorem sAt_snoc (i0 : Nat) (M0 : Nat → Int) (pre : List IP) (x : IP) : sAt i0 M0 (pre ++ [x]) = exS (sAt i0 M0 pre) x.2.val := by unfold sAt; simp
theorem EX.keep {w X Y : World} {m : Nat} {s : Nat × (Nat → Int)} {row : Option Nat} (hm : m < w.heap.size) (hs : EX w m s X) (hg : X.grownBy Y row) (hr : ∀ r, row = some r → w.heap.size + 2 ≤ r) : EX w m s Y := by
  have ne : ∀ k, k < w.heap.size + 2 → some k ≠ row := fun k hk e => by have := hr k e.symm; omega
  have hb := hs.big
  exact ⟨hs.grown.andThen hg (fun j e => .inl (by have := hr j e; omega)), Nat.le_trans hb hg.size, (hg.block _ (by omega) (ne _ (by omega))).trans hs.bp, (hg.block _ (by omega) (ne _ (by omega))).trans hs.bw, hs.own.kept hg (ne _ (by omega)), hs.rn, hs.lt⟩
theorem EX.drew {w X : World} {m : Nat} {s : Nat × (Nat → Int)} (hs : EX w m s X) : EX w m s X.drew := ⟨⟨hs.grown.os, hs.grown.tape, hs.grown.output, hs.grown.size, hs.grown.block⟩, hs.big, hs.bp, hs.bw, hs.own, hs.rn, hs.lt⟩
theorem turned_keeps {B m : Nat} {X Y : World} (h : X.mapTurned Y m) (hm : m < B) : KeepsFrom B X Y := KeepsFrom.of_grownBy h.grown (fun j e => by cases e; exact hm)
/-- a round's end: two entries put, the white cell's box written. -/
theorem EX.round {w W1 W2 W3 : World} {m : Nat} {s : Nat × (Nat → Int)} {v : Nat} (hm : m < w.heap.size) (E : EX w m s W1) (hv : v < 64) (T2 : W1.mapTurned W2 m) (T3 : W2.mapTurned W3 m) (O3 : OwnC W3 m (put (put s.2 v (s.1 : Int)) s.1 (v : Int))) :
    EX w m (exS s v) ((W3.setCell ⟨w.heap.size + 1, 0, none⟩ (.int .i64 (((s.2 v).toNat % 8 : Nat) : Int))).setCell ⟨w.heap.size + 1, 1, none⟩ (.int .i64 (((s.2 v).toNat / 8 : Nat) : Int))) := by
  have g2 := T2.grown
  have g3 := T3.grown
  have hb := E.big
  have hg3 : W1.grownBy W3 (some m) := g2.andThen g3 (fun j e => .inr e)
  have z3 := hg3.size
  have gA : W3.grownBy (W3.setCell ⟨w.heap.size + 1, 0, none⟩ (.int .i64 (((s.2 v).toNat % 8 : Nat) : Int))) (some (w.heap.size + 1)) := grownBy_setCell' _ _ _
  have hk : ∀ k, k < W3.heap.size → k ≠ w.heap.size + 1 → ((W3.setCell ⟨w.heap.size + 1, 0, none⟩ (.int .i64 (((s.2 v).toNat % 8 : Nat) : Int))).setCell ⟨w.heap.size + 1, 1, none⟩ (.int .i64 (((s.2 v).toNat / 8 : Nat) : Int))).heap[k]? = W3.heap[k]? := fun k _ hk =>
    (Below.heap_setCell _ _ _ _ hk).trans (Below.heap_setCell _ _ _ _ hk)
  have b3 : At2 W3 (w.heap.size + 1) ((s.1 % 8 : Nat) : Int) ((s.1 / 8 : Nat) : Int) := (hg3.block _ (by omega) (by intro e; injection e with e; omega)).trans E.bw
  have p3 : W3.heap[w.heap.size]? = some (.cells #[.map (some m)] 54 (0, 0)) := (hg3.block _ (by omega) (by intro e; injection e with e; omega)).trans E.bp
  obtain ⟨r1, r2⟩ := E.rn.ex (p := s) E.lt hv
  refine ⟨⟨?_, ?_, ?_, ?_, fun k hk' hne => ?_⟩, ?_, (hk _ (by omega) (by omega)).trans p3, b3.put, O3.same (hk _ O3.lt (by have := O3.lt; omega)), r1, r2⟩
  · exact hg3.os.trans E.grown.os
  · exact hg3.tape.trans E.grown.tape
  · exact hg3.output.trans E.grown.output
  · show w.heap.size ≤ _; simp [World.setCell]; omega
  · have := E.grown.size
    rw [hk k (by omega) (by omega), hg3.block k (by omega) hne]
    exact E.grown.block k hk' hne
  · simp [World.setCell]; omega
theorem EX.own_from {w : World} {m B : Nat} (i0 : Nat) (M0 : Nat → Int) (hm : m < w.heap.size) (hB : w.heap.size + 2 ≤ B) : OwnFrom B (fun (pre : List IP) W => EX w m (sAt i0 M0 pre) W) := fun s X Y row hs hg hr => hs.keep hm hg (fun r e => by have := (hr r e).1; omega)

set_option maxHeartbeats 4000000 in
theorem exch_in (F : Fence) (n : Nat) (hall : ∀ f, F.fn f) (h36 : F.fn 58) (h71 : F.fn 72) (h91 : F.fn 77) (hro : F.round = none) (hn : 3 ≤ n)
    (w : World) (m : Nat) (M : Nat → Int) (hM : OwnC w m M) (hR : Rn M) (b off cap : Nat) (js : List (Fin 64)) (hjs : js.length ≤ 1000) (hb : b < w.heap.size) (hbm : b ≠ m) (hc : ∀ j (h : j < js.length), CelAt w b (off + j * 2) js[j].val) (i : Nat) (hi : i < 64) :
    CallsIn F n Tryd.prog 58 #[.map (some m), .slice (some ⟨b, off, none⟩) js.length cap, .agg #[.int .i64 ((i % 8 : Nat) : Int), .int .i64 ((i / 8 : Nat) : Int)]] w fun e W' =>
      (∃ v, e = .returned v) ∧ OwnC W' m (exM (js.reverse.map fun x => x.val) i M) ∧ w.grownBy W' (some m) := by
  have h1 : 1 ≤ n := by omega
  have hml := hM.lt
  have HX := Lib.hid (fun (W : World) (x y : Int) => At2.new W x y)
  obtain ⟨ix, hix⟩ : ∃ x : Int, x = ((i % 8 : Nat) : Int) := ⟨_, rfl⟩
  obtain ⟨iy, hiy⟩ : ∃ x : Int, x = ((i / 8 : Nat) : Int) := ⟨_, rfl⟩
  rw [← hix, ← hiy]
  have HI := Lib.hid (And.intro hix hiy)
  clear hix hiy
  refine callsIn_of_wp_marks Tryd.func58 rfl h36 ?_ hro
  simp only [Tryd.ntmps58, List.size_toArray, List.length_cons, List.length_nil, Nat.reduceAdd, Nat.reduceSub, Array.replicate_succ, Array.replicate_zero, List.push_toArray, List.append_toArray, List.nil_append, List.cons_append]
  gi_wp2_with (gi_at_call 72; refine (back_in F (n - 1) h71 hro _ _ _ _).mono ?_; rintro e w' ⟨rfl, rfl⟩)
  have hW0 : ∃ W0, ((w.alloc (.cells #[.map (some m)] 54)).alloc (.cells #[.int .i64 ix, .int .i64 iy] 33)).alloc (.cells #[.slice (some ⟨b, off, none⟩) js.length cap] 28) = W0 := ⟨_, rfl⟩
  have hB0 : Below w.heap.size w (((w.alloc (.cells #[.map (some m)] 54)).alloc (.cells #[.int .i64 ix, .int .i64 iy] 33)).alloc (.cells #[.slice (some ⟨b, off, none⟩) js.length cap] 28)) := (((Below.refl _ w).alloc (Nat.le_refl _) _).alloc (by simp) _).alloc (by simp; omega) _
  have P1 := heap_alloc_new w (.cells #[.map (some m)] 54)
  have P2 := At2.new (w.alloc (.cells #[.map (some m)] 54)) ix iy
  have P3 := heap_alloc_new ((w.alloc (.cells #[.map (some m)] 54)).alloc (.cells #[.int .i64 ix, .int .i64 iy] 33)) (.cells #[.slice (some ⟨b, off, none⟩) js.length cap] 28)
  simp only [World.size_alloc] at P2 P3
  have P1 : ((((w.alloc (.cells #[.map (some m)] 54)).alloc (.cells #[.int .i64 ix, .int .i64 iy] 33)).alloc (.cells #[.slice (some ⟨b, off, none⟩) js.length cap] 28))).heap[w.heap.size]? = some (.cells #[.map (some m)] 54 (0, 0)) :=
    (Below.heap_alloc _ _ _ (by simp; omega)).trans ((Below.heap_alloc _ _ _ (by simp)).trans P1)
  have P2 : At2 (((w.alloc (.cells #[.map (some m)] 54)).alloc (.cells #[.int .i64 ix, .int .i64 iy] 33)).alloc (.cells #[.slice (some ⟨b, off, none⟩) js.length cap] 28)) (w.heap.size + 1) ix iy := (Below.heap_alloc _ _ _ (by simp)).trans P2
  have hz : (((w.alloc (.cells #[.map (some m)] 54)).alloc (.cells #[.int .i64 ix, .int .i64 iy] 33)).alloc (.cells #[.slice (some ⟨b, off, none⟩) js.length cap] 28)).heap.size = w.heap.size + 3 := by simp
  obtain ⟨W0, hW0⟩ := hW0
  rw [hW0] at hB0 P1 P2 P3 hz ⊢
  clear hW0
  have hg0 : w.grownBy W0 (some m) := ⟨hB0.os, hB0.tape, hB0.output, hB0.size, fun k hk _ => hB0.block k hk⟩
  have E0 : EX w m (i, M) W0 := ⟨hg0, Nat.le_of_eq hz.symm, P1, by rw [HI.out.1, HI.out.2] at P2; exact P2, hM.on hB0, hR, hi⟩
  have hc' : ∀ j (h : j < js.length), CelAt W0 b (off + j * 2) js[j].val := fun j h => ⟨(hB0.cell (p := ⟨b, off + j * 2, none⟩) hb).trans (hc j h).1, (hB0.cell (p := ⟨b, off + j * 2 + 1, none⟩) hb).trans (hc j h).2⟩
  have hBs := cellOf P3
  clear P1 P2 P3 hB0 hg0 hc hM hR hi HX
  refine wpIn_rangeFunc_ownH hro h1 (gf := 77) (lb := #[.pointer (some ⟨w.heap.size + 1 + 1, 0, none⟩)]) rfl h91 (enters_of Tryd.func77 (by kernel_rfl) rfl)
    (back_stops F (n - 1) h91 hro (by omega) (w.heap.size + 1 + 1) (w.heap.size + 3) b off cap js hjs (fun k => k = m ∨ k = w.heap.size + 1) (by omega) (by omega) (by omega) (by omega) W0 (by omega) hBs hc') (fun h k => h.trans k) (fun W l o o' h1 h2 h3 h4 => KX.putObj (Nat.le_of_eq hz.symm) W l o o' h1 h2 h3 h4) (Below.refl _ _) (fun _ => rfl)
    (fun pre W => EX w m (sAt i M pre) W)
    (fun _ _ _ => False)
    (EX.own_from i M hml (by omega))
    (fun _ _ _ _ _ hs _ _ => hs)
    E0
    (fun x a' W => ∃ Bx, w.heap.size + 3 ≤ Bx ∧ At2 W Bx ((x.2.val % 8 : Nat) : Int) ((x.2.val / 8 : Nat) : Int) ∧ a' = { tmps := #[.map (some m), .slice (some ⟨b, off, none⟩) js.length cap, .agg #[.int .i64 ix, .int .i64 iy], .pointer (some ⟨w.heap.size, 0, none⟩), undef, .pointer (some ⟨w.heap.size + 1, 0, none⟩), undef, .pointer (some ⟨Bx, 0, none⟩), undef, .slice (some ⟨b, off, none⟩) js.length cap, .func (.func 77) #[] #[.pointer (some ⟨w.heap.size + 1 + 1, 0, none⟩)], .int .i64 (x.1 : Int), cV x.2.val, undef, undef, undef, undef, undef, undef, undef, undef, undef, undef], defers := [] })
    (fun x a' _ X Y row hs hg hr => by
      obtain ⟨Bx, h1, h2, h3⟩ := hs
      refine ⟨Bx, h1, (hg.block Bx h2.lt (fun e => ?_)).trans h2, h3⟩
      obtain ⟨o, ho, hc⟩ := (hr Bx e.symm).2
      rw [show X.heap[Bx]? = _ from h2] at ho; cases ho; cases hc)
    ?assign ?body ?done ?stop
  case assign =>
    rintro l pre ⟨xi, v⟩ W K hE hK
    have hz3 := hE.big
    have hE2 := hE.keep (Y := W.alloc (.cells #[.int .i64 ((v.val % 8 : Nat) : Int), .int .i64 ((v.val / 8 : Nat) : Int)] 33)) hml (World.grownBy_alloc _ _ none) (fun r e => by cases e)
    unfold encB cV
    dsimp only
    gi_wp2
    exact hK _ _ ((KeepsOthers.alloc _ _).from _) (KX.of (World.grownBy_alloc _ _ none) (by omega) (fun r e => by cases e)) hE2 ⟨W.heap.size, hz3, At2.new W _ _, rfl⟩
  case body =>
    rintro l pre ⟨xi, v⟩ a' W hl ⟨r, hr⟩ hE ⟨Bx, hBx, bX, rfl⟩ hlt
    have HS := Lib.hid (sAt_snoc i M pre (xi, v))
    generalize sAt i M pre = s at hE HS
    have hz3 := hE.big
    have cP := cellOf hE.bp
    have cX0 := bX.c0
    have cX1 := bX.c1
    have hlk := hE.own.at v.isLt
    have hv := v.isLt
    generalize v.val = u at hlk cX0 cX1 hv HS bX ⊢
    have E1 := hE.keep (Y := W.alloc (.cells #[.int .i64 (((s.2 u).toNat % 8 : Nat) : Int), .int .i64 (((s.2 u).toNat / 8 : Nat) : Int)] 33)) hml (World.grownBy_alloc _ _ none) (fun r e => by cases e)
    have G1 := At2.new W (((s.2 u).toNat % 8 : Nat) : Int) (((s.2 u).toNat / 8 : Nat) : Int)
    have X1 : At2 (W.alloc (.cells #[.int .i64 (((s.2 u).toNat % 8 : Nat) : Int), .int .i64 (((s.2 u).toNat / 8 : Nat) : Int)] 33)) Bx ((u % 8 : Nat) : Int) ((u / 8 : Nat) : Int) := (Below.heap_alloc _ _ _ bX.lt).trans bX
    have hkA : KeepsFrom W0.heap.size W (W.alloc (.cells #[.int .i64 (((s.2 u).toNat % 8 : Nat) : Int), .int .i64 (((s.2 u).toNat / 8 : Nat) : Int)] 33)) := (KeepsOthers.alloc _ _).from _
    have hkB : KX (fun k => k = m ∨ k = w.heap.size + 1) (w.heap.size + 3) W (W.alloc (.cells #[.int .i64 (((s.2 u).toNat % 8 : Nat) : Int), .int .i64 (((s.2 u).toNat / 8 : Nat) : Int)] 33)) := KX.of (World.grownBy_alloc _ _ none) (by omega) (fun r e => by cases e)
    have hBm : Bx ≠ m := by omega
    have hGm : W.heap.size ≠ m := by omega
    have hG1 : W.heap.size ≠ w.heap.size + 1 := by omega
    have HKA := Lib.hid hkA
    have HKB := Lib.hid hkB
    have HE1 := Lib.hid E1
    have HG1 := Lib.hid G1
    have HX1 := Lib.hid X1
    have HNE := Lib.hid (And.intro hBm (And.intro hGm hG1))
    clear hkA hkB E1 G1 X1 hBm hGm hG1 bX hE
    generalize hgx : (((s.2 u).toNat % 8 : Nat) : Int) = gx at hlk HKA HKB HE1 HG1 HX1
    generalize hgy : (((s.2 u).toNat / 8 : Nat) : Int) = gy at hlk HKA HKB HE1 HG1 HX1
    generalize hux : ((u % 8 : Nat) : Int) = ux at cX0 cX1 hlk HX1 ⊢
    generalize huy : ((u / 8 : Nat) : Int) = uy at cX0 cX1 hlk HX1 ⊢
    have HU := Lib.hid (show cV u = .agg #[.int .i64 ux, .int .i64 uy] by unfold cV; rw [hux, huy])
    have HGi := Lib.hid (And.intro hgx hgy)
    unfold cV at hlk
    rw [hux, huy, hgx, hgy] at hlk
    unfold cV
    dsimp only
    rw [hux, huy]
    clear hux huy hgx hgy
    gi_wp2
    clear cX0 cX1 hlk
    generalize W.alloc (.cells #[.int .i64 gx, .int .i64 gy] 33) = W1 at HKA HKB HE1 HG1 HX1 ⊢
    generalize W.heap.size = gb at HG1 HNE ⊢
    have E1 := HE1.out.drew
    obtain ⟨W2, hr2, O2, T2⟩ := E1.own.store hv E1.lt
    obtain ⟨W3, hr3, O3, T3⟩ := O2.store E1.lt hv
    have HR := Lib.hid (EX.round hml E1 hv T2 T3 O3)
    have HT := Lib.hid (And.intro T2 T3)
    have hp2 : ∀ k, k ≠ m → k < W1.drew.heap.size → W2.heap[k]? = W1.drew.heap[k]? := fun k hk hlt => T2.grown.block k hlt (by intro e; injection e with e; exact hk e)
    have hp3 : ∀ k, k ≠ m → k < W1.drew.heap.size → W3.heap[k]? = W1.drew.heap[k]? := fun k hk hlt => (T3.grown.block k (Nat.lt_of_lt_of_le hlt T2.grown.size) (by intro e; injection e with e; exact hk e)).trans (hp2 k hk hlt)
    have hbg : w.heap.size + 3 ≤ W1.drew.heap.size := E1.big
    have B1 : At2 W1.drew (w.heap.size + 1) ((s.1 % 8 : Nat) : Int) ((s.1 / 8 : Nat) : Int) := E1.bw
    have B2 : At2 W2 (w.heap.size + 1) ((s.1 % 8 : Nat) : Int) ((s.1 / 8 : Nat) : Int) := (hp2 _ (by omega) (by omega)).trans B1
    have B3 : At2 W3 (w.heap.size + 1) ((s.1 % 8 : Nat) : Int) ((s.1 / 8 : Nat) : Int) := (hp3 _ (by omega) (by omega)).trans B1
    have P1 := cellOf E1.bp
    have P2 : W2.cell? ⟨w.heap.size, 0, none⟩ = some (.map (some m)) := cellOf ((hp2 _ (by omega) (by omega)).trans E1.bp)
    have X1 : At2 W1.drew Bx ux uy := HX1.out
    have X2 : At2 W2 Bx ux uy := (hp2 _ HNE.out.1 X1.lt).trans X1
    have G1 : At2 W1.drew gb gx gy := HG1.out
    have G3 : At2 W3 gb gx gy := (hp3 _ HNE.out.2.1 G1.lt).trans G1
    unfold cV at hr2 hr3
    rw [HGi.out.1, HGi.out.2] at HR
    have hU := HU.out
    unfold cV at hU
    rw [hU] at hr2 hr3
    have b10 := B1.c0
    have b11 := B1.c1
    have b20 := B2.c0
    have b21 := B2.c1
    have x10 := X1.c0
    have x11 := X1.c1
    have x20 := X2.c0
    have x21 := X2.c1
    have HB3 := Lib.hid B3
    have HG3 := Lib.hid G3
    have P3 : W3.cell? ⟨w.heap.size, 0, none⟩ = some (.map (some m)) := cellOf ((hp3 _ (by omega) (by omega)).trans E1.bp)
    have X3 : At2 W3 Bx ux uy := (hp3 _ HNE.out.1 X1.lt).trans X1
    have x30 := X3.c0
    have x31 := X3.c1
    clear hU HE1 HG1 HX1 hp2 hp3 E1 O2 O3 T2 T3 B1 B2 B3 X1 X2 X3 G1 G3 hv
    generalize ((s.1 % 8 : Nat) : Int) = sx at hr2 hr3 b10 b20 HB3
    generalize ((s.1 / 8 : Nat) : Int) = sy at hr2 hr3 b11 b21 HB3
    have b30 := HB3.out.c0
    have b31 := HB3.out.c1
    refine region_in (fun W' => W'.cell? ⟨w.heap.size, 0, none⟩ = some (.map (some m)) ∧ W'.cell? ⟨w.heap.size + 1, 0, none⟩ = some (.int .i64 sx) ∧ W'.cell? ⟨w.heap.size + 1, 1, none⟩ = some (.int .i64 sy) ∧ W'.cell? ⟨Bx, 0, none⟩ = some (.int .i64 ux) ∧ W'.cell? ⟨Bx, 1, none⟩ = some (.int .i64 uy)) (by kernel_rfl) hall (fun j o ho => ?calm) ⟨P1, b10, b11, x10, x11⟩ (fun hHeld => ?_)
    case calm =>
      match j, ho with
      | 0, ho => cases ho; exact calm_load rfl
      | 1, ho => cases ho; exact calm_load rfl
      | 2, ho => cases ho; exact calm_load rfl
      | 3, ho => cases ho; exact calm_load rfl
      | 4, ho => cases ho; exact calm_load rfl
      | 5, ho => cases ho; exact calm_load rfl
      | 6, ho => cases ho; exact calm_put rfl
      | 7, ho => cases ho; exact calm_put rfl
      | j + 8, ho => cases ho
    have hs3 := And.intro P3 (And.intro b30 (And.intro b31 (And.intro x30 x31)))
    have hs2 := And.intro P2 (And.intro b20 (And.intro b21 (And.intro x20 x21)))
    have HKD := Lib.hid (show KeepsFrom W0.heap.size W W1.drew from ⟨HKA.out.size, HKA.out.same⟩)
    have HXD := Lib.hid (show KX (fun k => k = m ∨ k = w.heap.size + 1) (w.heap.size + 3) W W1.drew from ⟨HKB.out.size, HKB.out.block⟩)
    clear HKA HKB P3 x30 x31 P1 P2 b10 b11 b20 b21 x10 x11 x20 x21
    generalize W1.drew = WD at *
    refine wpAnyH_take (i := 0) (v := ?_) rfl (by kernel_rfl) (by kernel_rfl) (by kernel_rfl) (fun _ _ _ h => h) (Or.inl ⟨by rfl, ?_⟩) (by assumption) ?_
    rotate_left
    · (intro w' hS; (try dsimp only at hS); go_simp; try with_reducible rfl)
    try simp only [Act.put, List.getElem_toArray, List.getElem_cons_succ, List.getElem_cons_zero, List.setIfInBounds_toArray, List.set_cons_zero, List.set_cons_succ]
    refine wpAnyH_take (i := 1) (v := ?_) rfl (by kernel_rfl) (by kernel_rfl) (by kernel_rfl) (fun _ _ _ h => h) (Or.inl ⟨by rfl, ?_⟩) (by assumption) ?_
    rotate_left
    · (intro w' hS; (try dsimp only at hS); go_simp; try with_reducible rfl)
    try simp only [Act.put, List.getElem_toArray, List.getElem_cons_succ, List.getElem_cons_zero, List.setIfInBounds_toArray, List.set_cons_zero, List.set_cons_succ]
    refine wpAnyH_take (i := 2) (v := ?_) rfl (by kernel_rfl) (by kernel_rfl) (by kernel_rfl) (fun _ _ _ h => h) (Or.inl ⟨by rfl, ?_⟩) (by assumption) ?_
    rotate_left
    · (intro w' hS; (try dsimp only at hS); go_simp; try with_reducible rfl)
    try simp only [Act.put, List.getElem_toArray, List.getElem_cons_succ, List.getElem_cons_zero, List.setIfInBounds_toArray, List.set_cons_zero, List.set_cons_succ]
    refine wpAnyH_take (i := 3) (v := ?_) rfl (by kernel_rfl) (by kernel_rfl) (by kernel_rfl) (fun _ _ _ h => h) (Or.inl ⟨by rfl, ?_⟩) (by assumption) ?_
    rotate_left
    · (intro w' hS; (try dsimp only at hS); go_simp; try with_reducible rfl)
    try simp only [Act.put, List.getElem_toArray, List.getElem_cons_succ, List.getElem_cons_zero, List.setIfInBounds_toArray, List.set_cons_zero, List.set_cons_succ]
    refine wpAnyH_take (i := 4) (v := ?_) rfl (by kernel_rfl) (by kernel_rfl) (by kernel_rfl) (fun _ _ _ h => h) (Or.inl ⟨by rfl, ?_⟩) (by assumption) ?_
    rotate_left
    · (intro w' hS; (try dsimp only at hS); go_simp; try with_reducible rfl)
    try simp only [Act.put, List.getElem_toArray, List.getElem_cons_succ, List.getElem_cons_zero, List.setIfInBounds_toArray, List.set_cons_zero, List.set_cons_succ]
    refine wpAnyH_take (i := 5) (v := ?_) rfl (by kernel_rfl) (by kernel_rfl) (by kernel_rfl) (fun _ _ _ h => h) (Or.inl ⟨by rfl, ?_⟩) (by assumption) ?_
    rotate_left
    · (intro w' hS; (try dsimp only at hS); go_simp; try with_reducible rfl)
    try simp only [Act.put, List.getElem_toArray, List.getElem_cons_succ, List.getElem_cons_zero, List.setIfInBounds_toArray, List.set_cons_zero, List.set_cons_succ]
    refine wpAnyH_ready (rs := [6]) (by kernel_rfl) (by simp) ?_
    refine AllReadyH.cons rfl (fun K hK => ?_) AllReadyH.nil
    go_simp
    refine hK.out _ _ (hs2) (fun hHeld => ?_)
    clear hK K
    try simp only [Act.put, List.getElem_toArray, List.getElem_cons_succ, List.getElem_cons_zero, List.setIfInBounds_toArray, List.set_cons_zero, List.set_cons_succ]
    refine wpAnyH_ready (rs := [7]) (by kernel_rfl) (by simp) ?_
    refine AllReadyH.cons rfl (fun K hK => ?_) AllReadyH.nil
    go_simp
    refine hK.out _ _ (hs3) (fun hHeld => ?_)
    clear hK K
    try simp only [Act.put, List.getElem_toArray, List.getElem_cons_succ, List.getElem_cons_zero, List.setIfInBounds_toArray, List.set_cons_zero, List.set_cons_succ]
    refine wpAnyH_done (by kernel_rfl) ?_ _
    refine onl_normal ?_
    have g30 := HG3.out.c0
    have g31 := HG3.out.c1
    have f30 := HB3.out.f0
    have f31 := HB3.out.f1
    clear hr2 hr3 hs2 hs3 hHeld
    gi_wp2
    have hbx : ∀ j, j ≠ w.heap.size + 1 → ((W3.setCell ⟨w.heap.size + 1, 0, none⟩ (.int .i64 gx)).setCell ⟨w.heap.size + 1, 1, none⟩ (.int .i64 gy)).heap[j]? = W3.heap[j]? := fun j hj => (Below.heap_setCell _ _ _ _ hj).trans (Below.heap_setCell _ _ _ _ hj)
    have t2 := HT.out.1
    have t3 := HT.out.2
    refine ⟨(HKD.out.trans ((turned_keeps t2 (by omega)).trans (turned_keeps t3 (by omega)))).trans (((KeepsOthers.setCell _ _ _).trans (KeepsOthers.setCell _ _ _)).from _), HXD.out.trans (((KX.of t2.grown (by omega) (fun r e => by cases e; exact .inr (.inl rfl))).trans (KX.of t3.grown (by have := turned_size t2; omega) (fun r e => by cases e; exact .inr (.inl rfl)))).trans ⟨by simp [World.setCell], fun j hj hx => hbx j (fun e => hx (.inr e))⟩), ?_⟩
    show EX w m (sAt i M (pre ++ [(xi, v)])) _
    rw [HS.out]
    exact HR.out
  case done =>
    rintro D ys W hD rfl hE hK
    gi_wp2
    refine ⟨by simp, .inl ⟨_, _, rfl, run_takeDeferred hK, ?_⟩⟩
    have hs := backT_all js
    have hsz := hE.big
    have hfin : (sAt i M (backT js js.length)).2 = exM (js.reverse.map fun x => x.val) i M := by
      rw [exM_fold, ← hs]
      unfold sAt
      rw [List.map_map]
      rfl
    rw [← hfin]
    have hE2 := hE.keep hml (grownBy_putObj' W D (.deferred none)) (fun r e => by cases e; omega)
    exact ⟨_, results_none rfl _ _ _, ⟨_, rfl⟩, hE2.own, hE2.grown⟩
  case stop =>
    rintro D c pre W _ _ h _
    exact h.elim
/-- the exchange, called. -/
theorem iExch (w : World) (m : Nat) (M : Nat → Int) (hM : OwnC w m M) (hR : Rn M) (b off cap : Nat) (js : List (Fin 64)) (hjs : js.length ≤ 1000) (hb : b < w.heap.size) (hbm : b ≠ m) (hc : ∀ j (h : j < js.length), CelAt w b (off + j * 2) js[j].val) (i : Nat) (hi : i < 64) :
    Calls Tryd.prog 58 #[.map (some m), .slice (some ⟨b, off, none⟩) js.length cap, .agg #[.int .i64 ((i % 8 : Nat) : Int), .int .i64 ((i / 8 : Nat) : Int)]] w fun e W' =>
      (∃ v, e = .returned v) ∧ OwnC W' m (exM (js.reverse.map fun x => x.val) i M) ∧ w.grownBy W' (some m) :=
  (callsIn_wide (n := 3)).1 (exch_in Fence.wide 3 (fun _ => trivial) trivial trivial trivial rfl (by omega) w m M hM hR b off cap js hjs hb hbm hc i hi)
end Go.Proofs.YtgkgdgchkhdgjaaDoor.Mat

/- matched and MatchRegion, the program's: the greatest list. -/
namespace Go.Proofs.YtgkgdgchkhdgjaaDoor.Mat
set_option linter.unusedVariables false
set_option linter.unusedSimpArgs false
set_option maxRecDepth 100000
open Go.RowKit Go.Proofs.YtgkgdgchkhdgjaaDoor.Base Go.Proofs.YtgkgdgchkhdgjaaDoor.Pure Go.Proofs.YtgkgdgchkhdgjaaDoor.Cell Go.Proofs.YtgkgdgchkhdgjaaDoor.Cels Go.Proofs.YtgkgdgchkhdgjaaDoor.Dom Go.Proofs.YtgkgdgchkhdgjaaDoor.Dms Go.Proofs.YtgkgdgchkhdgjaaDoor.Sets Go.Proofs.YtgkgdgchkhdgjaaDoor.Kun Go.Proofs.YtgkgdgchkhdgjaaDoor.KuL Go.Proofs.YtgkgdgchkhdgjaaDoor.Til Go.Joins
open Go.Proofs.YtgkgdgchkhdgjaaDoor.Cnt (adj gR)
open Go.Proofs.YtgkgdgchkhdgjaaDoor.Reg hiding Yes add_none RC rc_start

/-- the variables: the region's box, the map, the cells. -/
structure MS (w : World) (r : Value) (b1 off1 : Nat) (C : List (Int × Int)) (M : Nat → Int) (W : World) : Prop where
  bel : Below w.heap.size w W
  box : Rg W w.heap.size r
  own : OwnC W (w.heap.size + 1) M
  rd : RdC W b1 off1 C
section
variable {w W W' : World} {r : Value} {b1 off1 : Nat} {C : List (Int × Int)} {M M' : Nat → Int}
theorem MS.on (h : MS w r b1 off1 C M W) (hb : Below W.heap.size W W') : MS w r b1 off1 C M W' := ⟨h.bel.trans (hb.mono h.bel.size), h.box.on hb, h.own.on hb, h.rd.on hb⟩
theorem MS.drew (h : MS w r b1 off1 C M W) : MS w r b1 off1 C M W.drew := ⟨h.bel.drew, h.box, h.own, h.rd⟩
theorem RdC.not_map {m : Nat} (h : RdC W b1 off1 C) (hm : OwnC W m M) (h0 : 0 < C.length) : b1 ≠ m := by
  intro e
  obtain ⟨es, clock, hb⟩ := hm.obj
  have := (h.2 0 C[0] (List.getElem?_eq_getElem h0)).1
  rw [e] at this
  simp [World.cell?, hb] at this
theorem MS.exch (h : MS w r b1 off1 C M W) (ho : OwnC W' (w.heap.size + 1) M') (hg : W.grownBy W' (some (w.heap.size + 1))) : MS w r b1 off1 C M' W' :=
  ⟨h.bel.grown hg h.bel.size (fun g e => by cases e; omega), (hg.block _ h.box.lt (by intro e; injection e with e; omega)).trans h.box, ho, h.rd.grown hg (fun h0 e => RdC.not_map h.rd h.own h0 e.symm)⟩
end
/-- a pile as places below 64. -/
def finS (S : List Nat) (h : ∀ u ∈ S, u < 64) : List (Fin 64) := S.reverse.attach.map fun x => ⟨x.1, h x.1 (List.mem_reverse.1 x.2)⟩
theorem finS_val (S : List Nat) (h : ∀ u ∈ S, u < 64) : (finS S h).map (fun x => x.val) = S.reverse := by
  unfold finS; rw [List.map_map]; exact List.attach_map_subtype_val S.reverse
theorem finS_len (S : List Nat) (h : ∀ u ∈ S, u < 64) : (finS S h).length = S.length := by unfold finS; simp
theorem finS_back (S : List Nat) (h : ∀ u ∈ S, u < 64) : ((finS S h).reverse.map fun x => x.val) = S := by
  rw [List.map_reverse, finS_val, List.reverse_reverse]
theorem finS_at {S : List Nat} (h : ∀ u ∈ S, u < 64) {j : Nat} (hj : j < (finS S h).length) : S.reverse[j]? = some (finS S h)[j].val := by
  rw [← finS_val S h, List.getElem?_map, List.getElem?_eq_getElem hj]; rfl
/-- the exchange along what a search has left. -/
theorem exchange (W : World) (m : Nat) (M : Nat → Int) (hM : OwnC W m M) (hR : Rn M) (B g c : Nat) (S : List Nat) (hS : ∀ u ∈ S, u < 64) (hS0 : S ≠ []) (hS1 : S.length ≤ 1000) (hown : W.ownsRow B 33 2 (.slice (some ⟨g, 0, none⟩) S.length c) S.length (rowS S)) (i : Nat) (hi : i < 64) :
    Calls Tryd.prog 58 #[.map (some m), .slice (some ⟨g, 0, none⟩) S.length c, .agg #[.int .i64 (plc i).1, .int .i64 (plc i).2]] W fun e W' =>
      (∃ v, e = .returned v) ∧ OwnC W' m (exM S i M) ∧ W.grownBy W' (some m) := by
  have hgb : ∃ cs, W.heap[g]? = some (.cells cs 33 (0, 0)) := by
    rcases hown.2 with ⟨h, _⟩ | ⟨g', c', cur, e, h1, h2, _⟩
    · cases h
    · cases e; exact ⟨cur, h2⟩
  obtain ⟨cs, hgb⟩ := hgb
  obtain ⟨es, clock, hmb⟩ := hM.obj
  have h := iExch W m M hM hR g 0 c (finS S hS) (by rw [finS_len]; exact hS1) (Array.getElem?_eq_some_iff.1 hgb).1 (fun e => by rw [e, hmb] at hgb; cases hgb) (fun j hj => by
    have hl := finS_len S hS
    have hat := finS_at hS hj
    have hc := Nb.rowC_at (S.reverse.map plc) j (plc (finS S hS)[j].val) (by rw [List.getElem?_map, hat]; rfl)
    have h1 := (hown.cellAt (j * 2) (by omega)).trans hc.1
    have h2 := (hown.cellAt (j * 2 + 1) (by omega)).trans hc.2
    exact ⟨by rw [Nat.zero_add]; exact h1, by rw [Nat.zero_add]; exact h2⟩) i hi
  rw [finS_len, finS_back] at h
  exact h

/-- the partners that are matched: a new map. -/
def MatPost (xs : List Int) (w : World) (e : Ending) (w' : World) : Prop := ∃ m M, e = .returned (.map (some m)) ∧ w.heap.size ≤ m ∧ OwnC w' m M ∧ Mir col (jT xs (idl xs).length) M ∧ Below w.heap.size w w'

set_option maxHeartbeats 4000000 in
theorem iMatched (w : World) (A : Option Addr) (n cap B : Nat) (xs : List Int) (hx : xs.length = n) (hn : (n : Int) ≤ 9223372036854775807) (h : RowB w B A xs) (hB : B ≤ w.heap.size) :
    Calls Tryd.prog 30 #[.agg #[.slice A n cap]] w (MatPost xs w) := by
  have hmm := @run_makeMapC
  have HC := Lib.hid (fun W (hb : Below w.heap.size w W) => iCellsOf W A n cap B xs hx hn (h.below hb hB) (by have := hb.size; omega))
  have HW := Lib.hid (fun W (hb : Below w.heap.size w W) (ho : okR xs) m M (hM : OwnC W m M) (hR : Rn M) v (hv : v < 64) R (hrun : Run (gR xs) M [v] (fun _ => false) R) => iWayFrom W A n cap B xs hx hn (h.below hb hB) (by have := hb.size; omega) ho m M hM hR v hv R hrun)
  have HBx := Lib.hid (Rg.new w (.slice A n cap))
  have HS0 := Lib.hid (fun (o : Obj) => below_alloc1 w o)
  have HLn := Lib.hid (cellsR_length xs)
  rw [idl_cells, List.length_map] at HLn
  rw [idl_cells] at HC
  clear hx hn h hB
  go_enter Tryd.func30, Tryd.ntmps30
  go_wp2_with fail
  have K0 := OwnC.made (w.alloc (.cells #[.slice A n cap] 26))
  rw [World.size_alloc] at K0
  have B0 : Below w.heap.size w ((w.alloc (.cells #[.slice A n cap] 26)).alloc (.map #[] 0)) := (HS0.out _).alloc (by simp) _
  have R0 : Rg ((w.alloc (.cells #[.slice A n cap] 26)).alloc (.map #[] 0)) w.heap.size (.slice A n cap) := (Below.heap_alloc _ _ _ (by simp)).trans HBx.out
  refine (HC.out _ B0).mono ?_
  rintro e w1 ⟨A1, cap1, rfl, hown1, hb1⟩
  obtain ⟨b1, off1, hA1, hR1⟩ := rowC_own hown1
  have M1 : MS w (.slice A n cap) b1 off1 ((idl xs).map plc) (fun _ => -1) w1 := ⟨B0.trans (hb1.mono B0.size), R0.on hb1, K0.on hb1, ⟨fun h0 => (hA1 h0).2, hR1⟩⟩
  have HA1 := Lib.hid (fun h0 => (hA1 h0).1)
  have HM1 := Lib.hid M1
  rw [List.length_map] at HA1
  clear HC HBx HS0 hmm K0 B0 R0 hown1 hb1 hR1 hA1 M1
  obtain ⟨N, hN⟩ : ∃ N, N = (idl xs).length := ⟨_, rfl⟩
  rw [List.length_map]
  rw [← hN] at HLn HA1 ⊢
  have HN := Lib.hid hN
  clear hN
  go_wp2_with fail
  go_loopw [13] (fun i wr => ∃ (t : Nat) (M : Nat → Int), t ≤ N ∧ i = .int .i64 t ∧ MS w (.slice A n cap) b1 off1 ((idl xs).map plc) M wr ∧ Hid (Mir col (jT xs t) M)) (fun i _ => N - (intOf i).toNat)
  case atStart => exact ⟨0, _, Nat.zero_le _, rfl, HM1.out, Lib.hid (by rw [jT_zero]; exact mir_none col)⟩
  case round =>
    clear HM1
    obtain ⟨t, M, ht, rfl, hS, HMi⟩ := hrel
    have hN64 := HLn.out
    by_cases hlt : t < N
    · have hti : t < (idl xs).length := by rw [← HN.out]; exact hlt
      obtain rfl := HA1.out (by omega)
      obtain ⟨c0, c1⟩ := hS.rd.2 t (plc (idl xs)[t]) (by rw [List.getElem?_map, List.getElem?_eq_getElem hti]; rfl)
      obtain ⟨v64, vg, ho⟩ := idl_mem (List.getElem_mem hti)
      have HBl := Lib.hid (fun W => CellF.iIsBlack (plc (idl xs)[t]).1 (plc (idl xs)[t]).2 W)
      rw [show blackB (plc (idl xs)[t]).1 (plc (idl xs)[t]).2 = col (idl xs)[t] from col_black v64] at HBl
      have HNo := Lib.hid (fun h => jT_no (xs := xs) hti h)
      have HSe := Lib.hid (fun h => next_search hti h HMi.out)
      have HWv := Lib.hid (fun W hb m M hM hR R hrun => HW.out W hb ho m M hM hR ((idl xs)[t]'hti) v64 R hrun)
      generalize (idl xs)[t] = v at c0 c1 HBl HNo HSe HWv
      obtain ⟨vx, hvx⟩ : ∃ q, q = (plc v).1 := ⟨_, rfl⟩
      obtain ⟨vy, hvy⟩ : ∃ q, q = (plc v).2 := ⟨_, rfl⟩
      rw [← hvx] at c0 HBl HWv
      rw [← hvy] at c1 HBl HWv
      clear hvx hvy v64 vg
      have S2 := hS.on (below_alloc1 wr (.cells #[.int .i64 vx, .int .i64 vy] 33))
      have Z2 := At2.new wr vx vy
      go_upto_region 5 with fail
      generalize wr.alloc (.cells #[.int .i64 vx, .int .i64 vy] 33) = W2 at S2 Z2 ⊢
      generalize wr.heap.size = zb at Z2 ⊢
      clear c0 c1 hS
      have d0 := Z2.c0
      have d1 := Z2.c1
      go_wp2_with fail
      refine (HBl.out _).mono ?_
      rintro e w3 ⟨rfl, hb3⟩
      have S3 := S2.on hb3
      have Z3 := Z2.on hb3
      clear S2 Z2 d0 d1 hb3 HBl
      cases hc : col v with
      | false =>
        have HMn := Lib.hid (show Mir col (jT xs (t + 1)) M by rw [HNo.out hc]; exact HMi.out)
        clear hc HNo HSe HMi HWv
        go_wp2
        go_roundw
        case rel => exact ⟨t + 1, M, by omega, by go_num, S3, HMn⟩
        case measure => (simp [intOf] <;> omega)
      | true =>
        obtain ⟨R, hrun, hn0, hs0⟩ := HSe.out hc
        have HWc := Lib.hid (HWv.out w3 S3.bel _ M S3.own (mir_rn HMi.out) R hrun)
        have HRn := Lib.hid (mir_rn HMi.out)
        have Hn0 := Lib.hid hn0
        have Hs0 := Lib.hid hs0
        have r3 := S3.box.c0
        have d0 := Z3.c0
        have d1 := Z3.c1
        clear hc HNo HSe HMi HWv hrun hn0 hs0
        go_wp2_with fail
        refine HWc.out.mono ?_
        rintro e w4 ⟨hb4, hR⟩
        have S4 := S3.on hb4
        have Z4 := Z3.on hb4
        clear S3 Z3 r3 d0 d1 hb4
        cases R with
        | none =>
          have hR : e = .returned (.tuple #[.slice none 0 0, .agg #[.int .i64 0, .int .i64 0], .bool false]) := hR
          subst hR
          have HMn := Lib.hid (Hn0.out rfl)
          have S5 := S4.on (below_alloc1 w4 (.cells #[.int .i64 0, .int .i64 0] 33))
          clear Hn0 Hs0 S4 Z4
          go_wp2
          go_roundw
          case rel => exact ⟨t + 1, M, by omega, by go_num, S5, HMn⟩
          case measure => (simp [intOf] <;> omega)
        | some q =>
          obtain ⟨S, i⟩ := q
          obtain ⟨g4, c4, rfl, hown4, hl4⟩ : ∃ g cap, e = .returned (.tuple #[.slice (some ⟨g, 0, none⟩) S.length cap, .agg #[.int .i64 (plc i).1, .int .i64 (plc i).2], .bool true]) ∧ w4.ownsRow w3.heap.size 33 2 (.slice (some ⟨g, 0, none⟩) S.length cap) S.length (rowS S) ∧ S.length ≤ 65 := hR
          obtain ⟨i64, hS64, hS0, hMn⟩ := Hs0.out S i rfl
          have HMn := Lib.hid hMn
          have hSl : S.length ≤ 1000 := by omega
          have HEx := Lib.hid (fun W (hM : OwnC W (w.heap.size + 1) M) (ho : W.ownsRow w3.heap.size 33 2 (.slice (some ⟨g4, 0, none⟩) S.length c4) S.length (rowS S)) => exchange W _ M hM HRn.out _ g4 c4 S hS64 hS0 hSl ho i i64)
          obtain ⟨ix, hix⟩ : ∃ q, q = (plc i).1 := ⟨_, rfl⟩
          obtain ⟨iy, hiy⟩ : ∃ q, q = (plc i).2 := ⟨_, rfl⟩
          rw [← hix, ← hiy] at HEx ⊢
          have S5 := S4.on (below_alloc1 w4 (.cells #[.int .i64 ix, .int .i64 iy] 33))
          have O5 := Reg.own_below hown4 (below_alloc1 w4 (.cells #[.int .i64 ix, .int .i64 iy] 33)) (Nat.le_refl _)
          have I5 := At2.new w4 ix iy
          clear Hn0 Hs0 S4 Z4 hown4 hMn hix hiy i64 hS64 hS0 hSl hl4
          go_upto_region 7 with fail
          generalize w4.alloc (.cells #[.int .i64 ix, .int .i64 iy] 33) = W5 at S5 O5 I5 ⊢
          generalize w4.heap.size = zi at I5 ⊢
          have d0 := I5.c0
          have d1 := I5.c1
          go_wp2_with fail
          refine (HEx.out _ S5.own O5).mono ?_
          rintro e w6 ⟨⟨v6, rfl⟩, hO6, hg6⟩
          have S6 := S5.exch hO6 hg6
          clear S5 O5 I5 d0 d1 hO6 hg6 HEx
          go_wp2
          go_roundw
          case rel => exact ⟨t + 1, _, by omega, by go_num, S6, HMn⟩
          case measure => (simp [intOf] <;> omega)
    · obtain rfl : t = N := by omega
      have HMe := Lib.hid (show Mir col (jT xs (idl xs).length) M by rw [← HN.out]; exact HMi.out)
      have hO := hS.own
      have hB := hS.bel
      clear HMi hS HW
      go_wp2
      go_ret
      exact ⟨_, M, rfl, Nat.le_succ _, hO, HMe.out, hB⟩

end Go.Proofs.YtgkgdgchkhdgjaaDoor.Mat
