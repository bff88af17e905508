/- Dss, LisS, SetF in one text. -/
import Derived.Test.YtmajllgfmclcoaaGreatDoorMe25
import Derived.Test.YtmajllgfmclcoaaGreatDoorMe05
import Derived.Test.YtmajllgfmclcoaaGreatDoorMe23
import Derived.Test.YtmajllgfmclcoaaGreatDoorMe24
import Derived.Test.YtmajllgfmclcoaaGreatDoorMe01
import Derived.Test.YtmajllgfmclcoaaGreatDoorMe00
import Derived.Shelf.Spec.TrailingZeros
import Derived.Lib.LaidTab

namespace Go.Proofs.YtmajllgfmclcoaaGreatDoor.Dss
set_option linter.unusedVariables false
set_option linter.unusedSimpArgs false
open Go.RowKit Go.Proofs.YtmajllgfmclcoaaGreatDoor.Dms Go.Joins
open Go.Proofs.YtmajllgfmclcoaaGreatDoor.Reg hiding Yes

def blk (a : Option Addr) : Option Nat := a.map (·.block)
theorem ownBlock_slice (a : Option Addr) (n c : Nat) : (Value.slice a n c).ownBlock = blk a := by cases a <;> rfl
def Dif (a b : Option Addr) : Prop := ∀ g, blk a = some g → blk b ≠ some g
theorem Dif.symm {a b : Option Addr} (h : Dif a b) : Dif b a := fun g h1 h2 => h g h2 h1
theorem dif_types {W : World} {lo lo' e e' size size' n n' : Nat} {A A' : Option Addr} {c c' m m' : Nat} {xs xs' : List Value} (h : W.ownsRow lo e size (.slice A m c) n xs) (h' : W.ownsRow lo' e' size' (.slice A' m' c') n' xs') (hne : e ≠ e') : Dif A A' := by
 intro g h1 h2
 rcases h.2 with ⟨hv, _⟩ | ⟨g1, cap1, cur1, hv, _, hg1, _⟩
 ·injection hv with hA; subst hA; cases h1
 ·injection hv with hA; subst hA
  rcases h'.2 with ⟨hv', _⟩ | ⟨g2, cap2, cur2, hv', _, hg2, _⟩
  ·injection hv' with hA'; subst hA'; cases h2
  ·injection hv' with hA'; subst hA'
   simp [blk] at h1 h2
   subst h1; subst h2
   rw [hg1] at hg2
   injection hg2 with hg2
   injection hg2 with _ hg2
   exact hne hg2
def outs (h : Nat) (S : List (Option Addr × Nat)) : List Value := S.map fun s : Option Addr × Nat => Value.slice s.1 h s.2
theorem outs_length (h : Nat) (S : List (Option Addr × Nat)) : (outs h S).length = S.length := by unfold outs; simp
theorem outs_at {h : Nat} {S : List (Option Addr × Nat)} {i : Nat} {s : Option Addr × Nat} (hs : S[i]? = some s) : (outs h S)[i]? = some (.slice s.1 h s.2) := by unfold outs; rw [List.getElem?_map, hs]; rfl
def Ins (W : World) (lo hi h : Nat) (L : List (List Dm)) (S : List (Option Addr × Nat)) : Prop :=
 S.length = L.length ∧ (∀ (i : Nat) (s : Option Addr × Nat) (x : List Dm), S[i]? = some s → L[i]? = some x → RowIn W lo hi 63 3 (.slice s.1 h s.2) h (rowM x)) ∧ S.Pairwise (fun s t : Option Addr × Nat => Dif s.1 t.1)
def SSl (W : World) (lo hi : Nat) (A : Option Addr) (m cap h : Nat) (L : List (List Dm)) (S : List (Option Addr × Nat)) : Prop :=
 RowIn W lo hi 27 1 (.slice A m cap) m (outs h S) ∧ Ins W lo hi h L S
def SSIn (W : World) (lo hi : Nat) (A : Option Addr) (m cap h : Nat) (L : List (List Dm)) : Prop := ∃ S, SSl W lo hi A m cap h L S
theorem SSl.length {W : World} {lo hi m cap h : Nat} {A : Option Addr} {L : List (List Dm)} {S : List (Option Addr × Nat)} (k : SSl W lo hi A m cap h L S) : L.length = m ∧ S.length = m := by
 have h1 := k.1.1.1
 rw [outs_length] at h1
 have h2 := k.2.1
 omega
theorem Ins.nil (W : World) (lo hi h : Nat) : Ins W lo hi h [] [] := ⟨rfl, fun i s x hs => by simp at hs, List.Pairwise.nil⟩
theorem RowIn.wide {W : World} {lo hi lo' hi' e size n : Nat} {v : Value} {xs : List Value} (h : RowIn W lo hi e size v n xs) (h1 : lo' ≤ lo) (h2 : hi ≤ hi') : RowIn W lo' hi' e size v n xs :=
 ⟨own_base h.1 h1, fun g hg => by have := h.2 g hg; omega⟩
theorem Ins.wide {W : World} {lo hi lo' hi' h : Nat} {L : List (List Dm)} {S : List (Option Addr × Nat)} (k : Ins W lo hi h L S) (h1 : lo' ≤ lo) (h2 : hi ≤ hi') : Ins W lo' hi' h L S :=
 ⟨k.1, fun i s x hs hx => RowIn.wide (k.2.1 i s x hs hx) h1 h2, k.2.2⟩
theorem Ins.on {W W' : World} {lo hi h : Nat} {L : List (List Dm)} {S : List (Option Addr × Nat)} (k : Ins W lo hi h L S) (hb : Below W.heap.size W W') : Ins W' lo hi h L S :=
 ⟨k.1, fun i s x hs hx => (k.2.1 i s x hs hx).on hb, k.2.2⟩
theorem SSIn.on {W W' : World} {lo hi m cap h : Nat} {A : Option Addr} {L : List (List Dm)} (k : SSIn W lo hi A m cap h L) (hb : Below W.heap.size W W') : SSIn W' lo hi A m cap h L := by
 obtain ⟨S, k1, k2⟩ := k
 exact ⟨S, k1.on hb, k2.on hb⟩
theorem SSIn.wide {W : World} {lo hi lo' hi' m cap h : Nat} {A : Option Addr} {L : List (List Dm)} (k : SSIn W lo hi A m cap h L) (h1 : lo' ≤ lo) (h2 : hi ≤ hi') : SSIn W lo' hi' A m cap h L := by
 obtain ⟨S, k1, k2⟩ := k
 exact ⟨S, RowIn.wide k1 h1 h2, k2.wide h1 h2⟩
theorem rows_dif {W : World} {lo hi lo' hi' e e' size size' n n' m m' c c' : Nat} {A A' : Option Addr} {xs xs' : List Value} (h : RowIn W lo hi e size (.slice A m c) n xs) (h' : RowIn W lo' hi' e' size' (.slice A' m' c') n' xs') (hd : hi ≤ lo') : Dif A A' := by
 intro g h1 h2
 have a := h.2 g (by rw [ownBlock_slice]; exact h1)
 have b := (h'.1.lt g (by rw [ownBlock_slice]; exact h2)).1
 omega
theorem Ins.app {W : World} {lo hi lo' hi' h : Nat} {L L' : List (List Dm)} {S S' : List (Option Addr × Nat)} (k : Ins W lo hi h L S) (k' : Ins W lo' hi' h L' S') (h1 : lo ≤ hi) (hd : hi ≤ lo') (h2 : lo' ≤ hi') : Ins W lo hi' h (L ++ L') (S ++ S') := by
 refine ⟨by rw [List.length_append, List.length_append, k.1, k'.1], fun i s x hs hx => ?_, ?_⟩
 ·by_cases hi' : i < S.length
  ·rw [List.getElem?_append_left hi'] at hs
   rw [List.getElem?_append_left (by rw [← k.1]; exact hi')] at hx
   exact RowIn.wide (k.2.1 i s x hs hx) (Nat.le_refl _) (by omega)
  ·rw [List.getElem?_append_right (by omega)] at hs
   rw [List.getElem?_append_right (by rw [← k.1]; omega), ← k.1] at hx
   exact RowIn.wide (k'.2.1 _ s x hs hx) (by omega) (Nat.le_refl _)
 ·rw [List.pairwise_append]
  refine ⟨k.2.2, k'.2.2, fun s hs t ht => ?_⟩
  obtain ⟨i, hi1, e1⟩ := List.getElem_of_mem hs
  obtain ⟨j, hj1, e2⟩ := List.getElem_of_mem ht
  have r1 := k.2.1 i s _ (by rw [List.getElem?_eq_getElem hi1, e1]) (List.getElem?_eq_getElem (by rw [← k.1]; exact hi1))
  have r2 := k'.2.1 j t _ (by rw [List.getElem?_eq_getElem hj1, e2]) (List.getElem?_eq_getElem (by rw [← k'.1]; exact hj1))
  exact rows_dif r1 r2 hd
theorem Ins.one {W : World} {lo hi h c : Nat} {A : Option Addr} {x : List Dm} (k : RowIn W lo hi 63 3 (.slice A h c) h (rowM x)) : Ins W lo hi h [x] [(A, c)] := by
 refine ⟨rfl, fun i s y hs hy => ?_, by simp⟩
 cases i with
 | zero => simp at hs hy; subst hs; subst hy; exact k
 | succ i => simp at hs

end Go.Proofs.YtmajllgfmclcoaaGreatDoor.Dss

namespace Go.Proofs.YtmajllgfmclcoaaGreatDoor.Lis
set_option linter.unusedVariables false
set_option linter.unusedSimpArgs false
open Go.RowKit Go.Proofs.YtmajllgfmclcoaaGreatDoor.Pure Go.Proofs.YtmajllgfmclcoaaGreatDoor.Cell Go.Proofs.YtmajllgfmclcoaaGreatDoor.Dom Go.Proofs.YtmajllgfmclcoaaGreatDoor.Dms Go.Proofs.YtmajllgfmclcoaaGreatDoor.Til Go.Proofs.YtmajllgfmclcoaaGreatDoor.Dss Go.Joins
open Go.Proofs.YtmajllgfmclcoaaGreatDoor.Cnt (gR tiles gR_in gR_out)
open Go.Proofs.YtmajllgfmclcoaaGreatDoor.Reg hiding Yes RC rc_start

theorem append_any {P : Program} (w : World) {ops : Array Oper} {rest : List Oper} {o : Oper} {a : Act} {Q : Exit → Act → World → Prop} (hgd : o.guard = none) (s x : Operand) (t : TypeId)
  (ho : o.op = .call { callee := .builtin .append, args := #[s, x], argTypes := #[t, t] })
  (base : Nat) (e : TypeId) (i : TypeInfo) (z : Value) (size bytes : Nat) (ht : P.underlying t = some (.slice e)) (hi : P.info? e = some i) (hz : i.zero = some z)
  (hsize : i.size = size) (hby : i.bytes = bytes) (hzs : z.cells.size = size) (hsz : 0 < size)
  (g n cap : Nat) (xs : List Value) (hs : a.eval s = .slice (some ⟨g, 0, none⟩) n cap) (hown : w.ownsRow base e size (.slice (some ⟨g, 0, none⟩) n cap) n xs)
  (ad : Addr) (m c : Nat) (news : List Value) (hx : a.eval x = .slice (some ad) m c) (hl : news.length = m * size) (hnews : ∀ j u, news[j]? = some u → w.cell? (ad.add j) = some u) (h1 : ∀ u ∈ news, u.oneCell' = true)
  (h63 : n + m ≤ maxLen) (hbytes : (n + m) * bytes ≤ 140737488355328) (hbase : base ≤ w.heap.size)
  (h : ∀ g' cap' w', w'.ownsRow base e size (.slice (some ⟨g', 0, none⟩) (n + m) cap') (n + m) (xs ++ news) → w.grownBy w' (some g) → (g' = g ∨ g' = w.heap.size) → g' < w'.heap.size → wpList P ops Q rest (a.put o.dst (.slice (some ⟨g', 0, none⟩) (n + m) cap')) w') : wpList P ops Q (o :: rest) a w := by
 rcases Nat.eq_zero_or_pos m with h0 | h0
 ·refine wpList_append_fits w hgd s x t ho base e i size ht hi hsize g n cap xs hs hown ad m c news hx hl hnews h1 (by
   rcases hown.2 with ⟨q, _⟩ | ⟨g', cap', cur, q, _, _, h1, _⟩
   ·cases q
   ·injection q with _ _ qc
    subst qc; omega) ?_
  intro w' k1 k2
  exact h g cap w' k1 k2 (.inl rfl) (k1.lt g rfl).2
 ·refine wpList_append_lies w hgd s x t ho base e i z size bytes ht hi hz hsize hby hzs hsz _ n xs hs hown ad m c news hx hl hnews h1 h0 h63 hbytes hbase w.heap.size rfl ?_
  intro g' cap' w' k1 k2 k3 k4
  refine h g' cap' w' k1 k2 ?_ k4
  rcases k3 with k3 | k3
  ·injection k3 with k3; exact .inl k3.symm
  ·exact .inr k3

theorem step_append_any {P : Program} (w : World) {ops : Array Oper} {o : Oper} {a : Act} {K : Act → World → Prop} {Q : Exit → Act → World → Prop} {E : Prop} (hgd : o.guard = none) (s x : Operand) (t : TypeId)
  (ho : o.op = .call { callee := .builtin .append, args := #[s, x], argTypes := #[t, t] })
  (base : Nat) (e : TypeId) (i : TypeInfo) (z : Value) (size bytes : Nat) (ht : P.underlying t = some (.slice e)) (hi : P.info? e = some i) (hz : i.zero = some z)
  (hsize : i.size = size) (hby : i.bytes = bytes) (hzs : z.cells.size = size) (hsz : 0 < size)
  (g n cap : Nat) (xs : List Value) (hs : a.eval s = .slice (some ⟨g, 0, none⟩) n cap) (hown : w.ownsRow base e size (.slice (some ⟨g, 0, none⟩) n cap) n xs)
  (ad : Addr) (m c : Nat) (news : List Value) (hx : a.eval x = .slice (some ad) m c) (hl : news.length = m * size) (hnews : ∀ j u, news[j]? = some u → w.cell? (ad.add j) = some u) (h1 : ∀ u ∈ news, u.oneCell' = true)
  (h63 : n + m ≤ maxLen) (hbytes : (n + m) * bytes ≤ 140737488355328) (hbase : base ≤ w.heap.size)
  (h : ∀ g' cap' w', w'.ownsRow base e size (.slice (some ⟨g', 0, none⟩) (n + m) cap') (n + m) (xs ++ news) → w.grownBy w' (some g) → (g' = g ∨ g' = w.heap.size) → g' < w'.heap.size → K (a.put o.dst (.slice (some ⟨g', 0, none⟩) (n + m) cap')) w') :
  if Region.wanted o (yielded ops a.tmps) = true then Oper.wp P o a w K Q else E := by
 have hw : Region.wanted o (yielded ops a.tmps) = true := by simp [Region.wanted, hgd]
 rw [if_pos hw]
 rcases Nat.eq_zero_or_pos m with h0 | h0
 ·obtain ⟨w', hr, k1, k2⟩ := run_append_fits (P := P) w base t o.type e i size ht hi hsize g n cap xs hown ad m c news hl hnews h1 (by
   rcases hown.2 with ⟨q, _⟩ | ⟨g', cap', cur, q, _, _, h1, _⟩
   ·cases q
   ·injection q with _ _ qc
    subst qc; omega)
  unfold Oper.wp execOp
  simp only [ho, resolve, invoke, builtin, Sem.run_bind, Sem.run_pure, Result.andThen_ok, List.map_toArray, List.map_cons, List.map_nil, hs, hx, hr]
  exact h g cap w' k1 k2 (.inl rfl) (k1.lt g rfl).2
 ·refine wp_append_lies w s x t ho base e i z size bytes ht hi hz hsize hby hzs hsz _ n xs hs hown ad m c news hx hl hnews h1 h0 h63 hbytes hbase w.heap.size rfl ?_
  intro g' cap' w' k1 k2 k3 k4
  refine h g' cap' w' k1 k2 ?_ k4
  rcases k3 with k3 | k3
  ·injection k3 with k3; exact .inl k3.symm
  ·exact .inr k3

def SSPost (L : List (List Dm)) (h : Nat) (w : World) (e : Ending) (w' : World) : Prop :=
 ∃ g cap, e = .returned (.slice (some ⟨g, 0, none⟩) L.length cap) ∧ SSIn w' w.heap.size w'.heap.size (some ⟨g, 0, none⟩) L.length cap h L ∧ Below w.heap.size w w'
structure Lst (w : World) (va : Value) (bC offC : Nat) (C : List (Int × Int)) (h : Nat) (L : List (List Dm)) (go co : Nat) (W : World) : Prop where
 bel : Below w.heap.size w W
 box : Rg W w.heap.size va
 cs : RdC W bC offC C
 ne : 0 < C.length → w.heap.size + 2 ≤ bC ∧ go ≠ bC
 out : ∃ S, W.ownsRow (w.heap.size + 1) 27 1 (.slice (some ⟨go, 0, none⟩) L.length co) L.length (outs h S) ∧ Ins W (w.heap.size + 1) W.heap.size h L S
section
variable {w : World} {va : Value} {bC offC : Nat} {C : List (Int × Int)} {h : Nat} {L : List (List Dm)} {go co : Nat} {W W' : World}
theorem Lst.on (k : Lst w va bC offC C h L go co W) (hb : Below W.heap.size W W') : Lst w va bC offC C h L go co W' := by
 obtain ⟨S, s1, s2⟩ := k.out
 exact ⟨k.bel.trans (hb.mono k.bel.size), k.box.on hb, k.cs.on hb, k.ne, S, Reg.own_below s1 hb (Nat.le_refl _), (s2.on hb).wide (Nat.le_refl _) hb.size⟩
theorem Lst.drew (k : Lst w va bC offC C h L go co W) : Lst w va bC offC C h L go co W.drew := by
 obtain ⟨S, s1, s2⟩ := k.out
 exact ⟨k.bel.drew, k.box, k.cs, k.ne, S, s1, s2⟩
theorem Ins.grown {lo hi lo' m c g : Nat} {xs : List Value} {S : List (Option Addr × Nat)} (k : Ins W lo hi h L S) (ho : W.ownsRow lo' 27 1 (.slice (some ⟨g, 0, none⟩) m c) m xs) (hg : W.grownBy W' (some g)) : Ins W' lo hi h L S := by
 refine ⟨k.1, fun i s x hs hx => ?_, k.2.2⟩
 have r := k.2.1 i s x hs hx
 refine ⟨r.1.kept hg (.inr (fun e => ?_)), r.2⟩
 rw [ownBlock_slice] at e
 exact dif_types ho r.1 (by decide) g rfl e
theorem Lst.app {S' : List (Option Addr × Nat)} {L' : List (List Dm)} {go' co' m' : Nat} (k : Lst w va bC offC C h L go co W) (S : List (Option Addr × Nat)) (hS : W.ownsRow (w.heap.size + 1) 27 1 (.slice (some ⟨go, 0, none⟩) L.length co) L.length (outs h S))
  (hI : Ins W (w.heap.size + 1) W.heap.size h (L ++ L') (S ++ S')) (hm : m' = (L ++ L').length) (hg : W.grownBy W' (some go)) (hat : go' = go ∨ go' = W.heap.size)
  (hown : W'.ownsRow (w.heap.size + 1) 27 1 (.slice (some ⟨go', 0, none⟩) m' co') m' (outs h S ++ outs h S')) : Lst w va bC offC C h (L ++ L') go' co' W' := by
 subst hm
 have hgo := hS.lt go rfl
 refine ⟨k.bel.grown hg k.bel.size (fun j hj => by injection hj; omega), (hg.block _ k.box.lt (by intro e; injection e with e; omega)).trans k.box, k.cs.grown hg (fun h0 => (k.ne h0).2), fun h0 => ⟨(k.ne h0).1, ?_⟩, S ++ S', ?_, (Ins.grown hI hS hg).wide (Nat.le_refl _) hg.size⟩
 ·have a := k.ne h0
  have b := k.cs.1 h0
  rcases hat with e | e <;> omega
 ·have e : outs h (S ++ S') = outs h S ++ outs h S' := by unfold outs; rw [List.map_append]
  rw [e]; exact hown
theorem Lst.post (k : Lst w va bC offC C h L go co W) : SSPost L h w (.returned (.slice (some ⟨go, 0, none⟩) L.length co)) W := by
 obtain ⟨S, s1, s2⟩ := k.out
 exact ⟨go, co, rfl, ⟨S, ⟨Reg.own_base s1 (by omega), fun g hg => (s1.lt g hg).2⟩, s2.wide (by omega) (Nat.le_refl _)⟩, k.bel⟩
end
theorem can_is {xs : List Int} (ho : okR xs) {M : List Dm} {c : Nat} (hc : c < 64) (b : Bool) : canB xs M c b = (okM (dmN c b) && (hasB xs (sx (dmN c b).1 b) (sy (dmN c b).2.1 b) && !anyM M (sx (dmN c b).1 b) (sy (dmN c b).2.1 b))) := by
 rw [Bool.eq_iff_iff]
 constructor
 ·intro h
  obtain ⟨h1, h2, h3⟩ := can_lt h
  obtain ⟨o1, o2, o3⟩ := oth_ok h1 h2
  rw [gM_iff] at h3
  rw [o1, o2, o3, has_place ho h3.1, h3.2]; rfl
 ·intro h
  rw [Bool.and_eq_true, Bool.and_eq_true] at h
  obtain ⟨h1, h2, h3⟩ := h
  have hk : (b = false → c % 8 ≠ 7) ∧ oth c b < 64 := by
   unfold okM domB dmN at h1
   rw [Bool.and_eq_true, okB_iff, okB_iff] at h1
   unfold Ok at h1
   cases b
   ·simp only [sx, sy, Bool.false_eq_true, if_false] at h1
    unfold wrap64 at h1
    unfold oth
    simp only [Bool.false_eq_true, if_false]
    exact ⟨fun _ => by omega, by omega⟩
   ·simp only [sx, sy, if_true] at h1
    unfold wrap64 at h1
    unfold oth
    simp only [if_true]
    first
     | omega
     | exact ⟨fun h => (by cases h), by omega⟩
     | exact ⟨trivial, by omega⟩
     | exact ⟨fun _ => by omega, by omega⟩
  obtain ⟨o1, o2, o3⟩ := oth_ok hk.2 hk.1
  rw [o2, o3] at h2 h3
  unfold canB
  have g := place_has hk.2 h2
  have : gM xs M (oth c b) = true := gM_iff.2 ⟨g, by simpa using h3⟩
  rw [this, Bool.and_true]
  cases b
  ·simpa using hk.1 rfl
  ·rfl
def pre (xs : List Int) (M : List Dm) (c t : Nat) : List (List Dm) := if t = 0 then [] else if t = 1 then one xs M c false else one xs M c false ++ one xs M c true
theorem pre_step {xs : List Int} {M : List Dm} {c t : Nat} (ht : t < 2) : pre xs M c (t + 1) = pre xs M c t ++ one xs M c (decide (t = 1)) := by
 match t, ht with
 | 0, _ => simp [pre]
 | 1, _ => simp [pre]
theorem pre_full {xs : List Int} {M : List Dm} {c t : Nat} (ht : t ≤ 2) : ∃ Y, pre xs M c 2 = pre xs M c t ++ Y := by
 match t, ht with
 | 0, _ => exact ⟨_, by simp [pre]; rfl⟩
 | 1, _ => exact ⟨one xs M c true, by simp [pre]⟩
 | 2, _ => exact ⟨[], by simp⟩
theorem pre_stop {xs : List Int} {M : List Dm} {c t most : Nat} {L : List (List Dm)} (ht : t ≤ 2) (hL : L = (pre xs M c t).take most) (h : t = 2 ∨ most ≤ L.length) : L = (pre xs M c 2).take most := by
 rcases h with h | h
 ·rw [hL, h]
 ·obtain ⟨Y, e⟩ := pre_full (xs := xs) (M := M) (c := c) ht
  rw [e, take_two, hL]
  have hl : most ≤ (pre xs M c t).length := by rw [hL, List.length_take] at h; omega
  rw [show most - (pre xs M c t).length = 0 by omega, List.take_zero, List.append_nil]
theorem pre_more {xs : List Int} {M : List Dm} {c t most : Nat} {L : List (List Dm)} (ht : t < 2) (hL : L = (pre xs M c t).take most) (hlt : L.length < most) : (pre xs M c (t + 1)).take most = L ++ (one xs M c (decide (t = 1))).take (most - L.length) := by
 rw [pre_step ht, take_two, ← hL]
 congr 2
 rw [hL, List.length_take] at hlt ⊢
 omega
theorem cont_half {xs : List Int} (ho : okR xs) {M : List Dm} {k : Nat} (hb : Beg xs k M) (hk : k ≤ 64) (h0 : ∀ i, i < k → gM xs M i = false) : ∀ L ∈ cont xs M, L.length = (cellsR xs).length / 2 := by
 intro L hL
 unfold cont at hL
 obtain ⟨L', hL', rfl⟩ := List.mem_map.1 hL
 rw [LsG_from h0 hk] at hL'
 exact til_half (Ls_til ho (64 - k) k M (by omega) hb h0 L' hL')
end Go.Proofs.YtmajllgfmclcoaaGreatDoor.Lis

namespace Go.Proofs.YtmajllgfmclcoaaGreatDoor.Sets
set_option linter.unusedVariables false
set_option linter.unusedSimpArgs false
open Go.RowKit Go.Proofs.YtmajllgfmclcoaaGreatDoor.Cell Go.Proofs.YtmajllgfmclcoaaGreatDoor.CellF Go.Proofs.YtmajllgfmclcoaaGreatDoor.Dom Go.Proofs.YtmajllgfmclcoaaGreatDoor.Dms Go.Proofs.YtmajllgfmclcoaaGreatDoor.Til Go.Proofs.YtmajllgfmclcoaaGreatDoor.Lis Go.Joins
open Go.Proofs.YtmajllgfmclcoaaGreatDoor.Reg hiding Yes

def tabZ : List Int := Lib.deBruijn64tab.map Int.ofNat
def Tab (w : World) : Prop := Lib.TabIs Tryz.prog w "math/bits.deBruijn64tab" .u8 tabZ
theorem gTab : Tryz.prog.globalNamed "math/bits.deBruijn64tab" = some 0 := by kernel_rfl
theorem tab_at : ∀ k, k < 64 → tabZ.getD k 0 = ((Lib.deBruijn64tab.getD k 0 : Nat) : Int) := by decide +kernel
theorem Tab.cell {w : World} (h : Tab w) {k : Nat} (hk : k < 64) : w.cell? ⟨0, k, none⟩ = some (.int .u8 ((Lib.deBruijn64tab.getD k 0 : Nat) : Int)) := by
  rw [← tab_at k hk]
  exact Lib.TabIs.cell h gTab k (by have : tabZ.length = 64 := by decide +kernel
                                    omega)
theorem Tab.lt {w : World} (h : Tab w) : 0 < w.heap.size := World.block_lt_of_cell? w _ (h.cell (k := 0) (by omega))
theorem Tab.same {w w' : World} (h : Tab w) (hb : w'.heap[0]? = w.heap[0]?) : Tab w' := by
  unfold Tab Lib.TabIs World.var? at *
  rw [gTab] at *
  simp only [Option.bind_some] at *
  rw [hb]; exact h
theorem Tab.on {w w' : World} {B : Nat} (h : Tab w) (hb : Below B w w') (hB : w.heap.size ≤ B) : Tab w' := h.same (hb.block _ (Nat.lt_of_lt_of_le h.lt hB))

theorem rowM_ones (L : List Dm) : ∀ v ∈ rowM L, v.oneCell' = true := by
  intro v hv
  unfold rowM at hv
  rw [List.mem_flatMap] at hv
  obtain ⟨d, _, hd⟩ := hv
  simp only [List.mem_cons, List.not_mem_nil, or_false] at hd
  rcases hd with rfl | rfl | rfl <;> rfl
set_option maxHeartbeats 1000000 in
theorem iTz_core (x k idx : Nat) (w : World) (hx0 : ((x : Int) == 0) = false)
    (key : IntKind.u64.wrap (bits BinOp.and IntKind.u64 (x : Int) (IntKind.u64.wrap (-(x : Int))) * 285870213051353865) / 288230376151711744 = (idx : Int))
    (hi : idx < 64) (hk : k < 64) (hcell : w.cell? ⟨0, idx, none⟩ = some (.int .u8 (k : Int))) :
    Calls Tryz.prog 134 #[.int .u64 (x : Int)] w fun e w' => e = .returned (.int .i64 (k : Int)) ∧ w' = w := by
  go_enter Tryz.func134, Tryz.ntmps134
  go_wp2_with (simp only [key])
  go_ret
  exact ⟨rfl, rfl⟩
theorem iTz (x : Nat) (h0 : x ≠ 0) (hx : x < 18446744073709551616) (w : World) (hT : Tab w) :
    Calls Tryz.prog 134 #[.int .u64 (x : Int)] w fun e w' => e = .returned (.int .i64 ((Lib.ctz 64 x : Nat) : Int)) ∧ w' = w := by
  obtain ⟨hlow, hk⟩ := Lib.lowest_bit 64 x h0 hx
  obtain ⟨hi, htab⟩ := Lib.deBruijn64_at _ hk
  have hcell := hT.cell hi
  rw [htab] at hcell
  exact iTz_core x _ _ w (by simp; omega) (tz64_key x _ hx h0 hlow) hi hk hcell

def plc (k : Nat) : Int × Int := (((k % 8 : Nat) : Int), ((k / 8 : Nat) : Int))
theorem atX_plc {k : Nat} (h : k < 64) : atX (k : Int) = (plc k).1 ∧ atY (k : Int) = (plc k).2 := by
  have : (0 : Int) ≤ k ∧ (k : Int) ≤ 63 := by omega
  constructor
  · unfold atX plc; simp [inB, this]
  · unfold atY plc; simp [inB, this]
theorem ok_plc {k : Nat} (h : k < 64) : Ok (plc k).1 (plc k).2 := by unfold Ok plc; simp only; omega
theorem index_plc {k : Nat} (h : k < 64) : indexN (plc k).1 (plc k).2 = (k : Int) := by
  unfold indexN
  simp only [ok_plc h, if_true]
  unfold plc; simp only; omega
def CelOf (k : Nat) (w : World) (e : Ending) (w' : World) : Prop := e = .returned (.agg #[.int .i64 (plc k).1, .int .i64 (plc k).2]) ∧ Below w.heap.size w w'
set_option maxHeartbeats 1000000 in
theorem iFirst (x : Nat) (h0 : x ≠ 0) (hx : x < 18446744073709551616) (w : World) (hT : Tab w) :
    Calls Tryz.prog 111 #[.int .u64 (x : Int)] w (CelOf (Lib.ctz 64 x) w) := by
  have HZ := Lib.hid (fun W (hb : Below w.heap.size w W) => iTz x h0 hx W (hT.on hb (Nat.le_refl _)))
  have hk := (ctz_is h0 hx).1
  have HA := Lib.hid (fun W => iCellAt ((Lib.ctz 64 x : Nat) : Int) W)
  have HS := Lib.hid (fun (o : Obj) => below_alloc1 w o)
  generalize Lib.ctz 64 x = k at HZ hk HA ⊢
  obtain ⟨e1, e2⟩ := atX_plc hk
  have HE := Lib.hid (And.intro e1 e2)
  clear e1 e2 h0 hx hT
  obtain ⟨kk, hkk⟩ : ∃ kk : Int, kk = (k : Int) := ⟨_, rfl⟩
  rw [← hkk] at HZ HA HE
  clear hkk hk
  go_enter Tryz.func111, Tryz.ntmps111
  go_wp2_with fail
  have hb0 := HS.out (.cells #[.int .i64 0, .int .i64 0] 79)
  refine (HZ.out _ hb0).mono ?_
  rintro e w1 ⟨rfl, hw⟩
  have hw := hw.symm
  subst hw
  go_wp2_with fail
  have K0 := At2.new w 0 0
  generalize w.alloc (.cells #[.int .i64 0, .int .i64 0] 79) = W0 at hb0 K0 ⊢
  refine (HA.out _).mono ?_
  rintro e w2 ⟨rfl, hb2⟩
  have HP := Lib.hid (rfl : plc k = plc k)
  have HE2 := Lib.hid (show ∀ a b : Int, a = atX kk → b = atY kk → a = (plc k).1 ∧ b = (plc k).2 from fun a b h1 h2 => ⟨h1.trans HE.out.1, h2.trans HE.out.2⟩)
  have K2 := K0.on hb2
  have hbw := hb0.trans (hb2.mono hb0.size)
  clear HA HE HZ HS hb0 K0 hb2
  obtain ⟨u, hu⟩ : ∃ u, u = atX kk := ⟨_, rfl⟩
  obtain ⟨v, hv⟩ : ∃ v, v = atY kk := ⟨_, rfl⟩
  have HE3 := Lib.hid (HE2.out u v hu hv)
  rw [← hu, ← hv]
  clear hu hv HE2
  have hlt := K2.lt
  have K3 := K2.on (below_alloc1 w2 (.cells #[.int .i64 u, .int .i64 v] 79))
  have N3 := At2.new w2 u v
  have hbw3 := hbw.trans ((below_alloc1 w2 (.cells #[.int .i64 u, .int .i64 v] 79)).mono hbw.size)
  go_upto_region 2 with fail
  generalize w2.alloc (.cells #[.int .i64 u, .int .i64 v] 79) = W3 at K3 N3 hbw3 ⊢
  generalize w2.heap.size = p3 at N3 ⊢
  have n0 := N3.c0
  have n1 := N3.c1
  have f0 := K3.f0
  have f1 := K3.f1
  have c0 := K3.c0
  have c1 := K3.c1
  have K4 := K3.put (a := u) (b := v)
  have hbw4 := (hbw3.setCell (p := ⟨w.heap.size, 0, none⟩) (Nat.le_refl _) (.int .i64 u)).setCell (p := ⟨w.heap.size, 1, none⟩) (Nat.le_refl _) (.int .i64 v)
  have d0 := K4.c0
  have d1 := K4.c1
  go_wp2
  exact bodyPost_ret (v := .agg #[.int .i64 u, .int .i64 v]) (by simp [results, Tryz.results111, go_sem, d0, d1]) rfl ⟨by rw [HE3.out.1, HE3.out.2], hbw4⟩

theorem plc_at {js : List Nat} {C : List (Int × Int)} (hC : C = js.map plc) {k : Nat} (hk : k < js.length) : C[k]? = some (plc js[k]) := by rw [hC, List.getElem?_map, List.getElem?_eq_getElem hk]; rfl
theorem shl_is {j : Nat} (h : j < 64) : Op.shift .shl .u64 1 .i64 (j : Int) = pure (.int .u64 ((2 ^ j : Nat) : Int)) := by
  rw [shift_shl .u64 .i64 1 (j : Int) (by omega) (by show (j : Int) ≤ 64; omega), Int.one_mul, Int.toNat_natCast]
  have e : IntKind.u64.wrap ((2 : Int) ^ j) = ((2 ^ j : Nat) : Int) := by
    have : ((2 ^ j : Nat) : Int) = (2 : Int) ^ j := by simp
    have h2 := one_lt h
    rw [← this, IntKind.wrap_u64]
    generalize 2 ^ j = t at h2 ⊢
    omega
  rw [e]
def SetE (x : Nat) (w : World) (e : Ending) (w' : World) : Prop := e = .returned (.int .u64 (x : Int)) ∧ Below w.heap.size w w'
set_option maxRecDepth 100000 in
set_option maxHeartbeats 1000000 in
theorem iSetOf (w : World) (A : Option Addr) (m cap b off : Nat) (C : List (Int × Int)) (js : List Nat) (hC : C = js.map plc) (hj : ∀ j ∈ js, j < 64) (hm : js.length = m) (hmm : (m : Int) ≤ 1000000) (hA : 0 < m → A = some ⟨b, off, none⟩) (R : RdC w b off C) :
    Calls Tryz.prog 114 #[.slice A m cap] w (SetE (setN js) w) := by
  have hCl : C.length = m := by rw [hC, List.length_map, hm]
  have HR := Lib.hid R
  have HA := Lib.hid hA
  have HI := Lib.hid (fun x y W => iCellIndex x y W)
  have HP := Lib.hid (fun k (hk : k < js.length) => plc_at hC hk)
  have HJ := Lib.hid hj
  have HL := Lib.hid (fun k => set_lt (l := js.take k) (fun j hj' => hj j (List.mem_of_mem_take hj')))
  have HM := Lib.hid hm
  have HCl := Lib.hid hCl
  have HF := Lib.hid (show setN (js.take m) = setN js by rw [List.take_of_length_le (by omega)])
  have h00 : setN (js.take 0) = 0 := rfl
  clear hC hj R hA hm hCl
  go_enter Tryz.func114, Tryz.ntmps114
  go_wp2_with fail
  go_loopw [3, 8] (fun v i wr => ∃ k : Nat, k ≤ m ∧ i = .int .i64 k ∧ v = .int .u64 ((setN (js.take k) : Nat) : Int) ∧ Below w.heap.size w wr) (fun _ i _ => m - (intOf i).toNat)
  case atStart => exact ⟨0, Nat.zero_le _, rfl, rfl, Below.refl _ _⟩
  case round =>
    obtain ⟨k, hk, rfl, rfl, hb⟩ := hrel
    have hbs := hb.size
    by_cases hlt : k < m
    · have hkj : k < js.length := by rw [HM.out]; exact hlt
      obtain rfl := HA.out (by omega)
      have hbb : b < w.heap.size := HR.out.1 (by rw [HCl.out]; omega)
      obtain ⟨c0, c1⟩ := HR.out.2 k _ (HP.out k hkj)
      have c0 := (hb.cell (p := ⟨b, off + k * 2, none⟩) hbb).trans c0
      have c1 := (hb.cell (p := ⟨b, off + k * 2 + 1, none⟩) hbb).trans c1
      have hj64 : js[k] < 64 := HJ.out _ (List.getElem_mem hkj)
      have hor := u64_or_nat (setN (js.take k)) (2 ^ js[k]) (HL.out k) (one_lt hj64)
      rw [← set_take hkj] at hor
      have hsh := shl_is hj64
      have HIk := Lib.hid (fun W => index_plc hj64 ▸ HI.out (plc js[k]).1 (plc js[k]).2 W)
      generalize js[k] = j at c0 c1 hor hsh HIk
      generalize (plc j).1 = x at c0 HIk
      generalize (plc j).2 = y at c1 HIk
      obtain ⟨q, hq⟩ : ∃ q : Int, q = (j : Int) := ⟨_, rfl⟩
      obtain ⟨t, ht⟩ : ∃ t : Int, t = ((2 ^ j : Nat) : Int) := ⟨_, rfl⟩
      rw [← ht] at hor hsh
      rw [← hq] at hsh HIk
      generalize setN (js.take k) = s at hor ⊢
      have HN := Lib.hid (rfl : setN (js.take (k + 1)) = setN (js.take (k + 1)))
      clear hq ht hj64
      have hbw := hb.alloc hbs (.cells #[.int .i64 x, .int .i64 y] 79)
      have hz : (wr.alloc (.cells #[.int .i64 x, .int .i64 y] 79)).heap.size = wr.heap.size + 1 := by simp
      go_wp2_with fail
      refine (HIk.out _).mono ?_
      rintro e w1 ⟨rfl, hb1⟩
      have hbw1 := hbw.trans (hb1.mono (by omega))
      clear hbw hb1 hz c0 c1
      go_wp2
      go_roundw
      case rel => exact ⟨k + 1, by omega, by go_num, rfl, hbw1⟩
      case measure => (simp [intOf] <;> omega)
    · obtain rfl : k = m := by omega
      go_wp2
      go_ret
      rw [HF.out]
      exact ⟨rfl, hb⟩

def hasS (x : Nat) (u v : Int) : Bool := okB u v && bt x (v * 8 + u).toNat
theorem ok_place {u v : Int} (h : Ok u v) : ∃ k, k < 64 ∧ (u, v) = plc k ∧ (v * 8 + u).toNat = k := by
  unfold Ok at h
  refine ⟨(v * 8 + u).toNat, by omega, ?_, rfl⟩
  unfold plc
  rw [Prod.mk.injEq]
  constructor <;> omega
set_option maxRecDepth 100000 in
set_option maxHeartbeats 1000000 in
theorem iHas (x : Nat) (hx : x < 18446744073709551616) (u v : Int) (w : World) :
    Calls Tryz.prog 113 #[.int .u64 (x : Int), .agg #[.int .i64 u, .int .i64 v]] w (Bol (hasS x u v) w) := by
  have HV := Lib.hid (fun W => isValid u v W)
  have K0 := At2.new w u v
  have B0 := below_alloc1 w (.cells #[.int .i64 u, .int .i64 v] 79)
  have HK := Lib.hid K0
  have HB := Lib.hid B0
  have HY := Lib.hid (fun h : Ok u v => ok_place h)
  obtain ⟨r, hr⟩ : ∃ r, r = hasS x u v := ⟨_, rfl⟩
  rw [← hr]
  have HH := Lib.hid (show r = (okB u v && bt x (v * 8 + u).toNat) from hr)
  clear hr
  clear K0 B0
  go_enter Tryz.func113, Tryz.ntmps113
  go_wp2_with fail
  generalize w.alloc (.cells #[.int .i64 u, .int .i64 v] 79) = W0 at HK HB ⊢
  have K0 := HK.out
  refine (HV.out _).mono ?_
  rintro e w1 ⟨rfl, hb1⟩
  have K1 := K0.on hb1
  have hbw := HB.out.trans (hb1.mono HB.out.size)
  have c0 := K1.c0
  have c1 := K1.c1
  clear HK HB HV K0 hb1
  by_cases hok : Ok u v
  · obtain ⟨k, hk, e, hk2⟩ := HY.out hok
    have HR := Lib.hid (show r = (true && bt x k) by rw [HH.out, hk2, okB_of hok])
    rw [okB_of hok]
    have R2 : RdC (w1.alloc (.cells #[.int .i64 u, .int .i64 v] 79)) w1.heap.size 0 [(u, v)] := by
      have N := At2.new w1 u v
      refine ⟨fun _ => N.lt, fun j p hp => ?_⟩
      cases j with
      | zero => simp at hp; subst hp; exact ⟨by simp, by simp⟩
      | succ j => simp at hp
    have HS := Lib.hid (fun c => iSetOf _ (some ⟨w1.heap.size, 0, none⟩) 1 c w1.heap.size 0 [(u, v)] [k] (by rw [e]; rfl) (fun j hj' => by rw [List.mem_singleton.1 hj']; exact hk) rfl (by omega) (fun _ => rfl) R2)
    have hs1 : setN [k] = 2 ^ k := by unfold setN; simp
    rw [hs1] at HS
    have hand := u64_and_nat x (2 ^ k) hx (one_lt hk)
    have hbw2 := hbw.alloc hbw.size (.cells #[.int .i64 u, .int .i64 v] 79)
    have hne : (((x &&& 2 ^ k : Nat) : Int) != (0 : Int)) = bt x k := by
      rw [Bool.eq_iff_iff, ← meets (x := x) (k := k)]
      simp
    obtain ⟨t, ht⟩ : ∃ t : Int, t = ((2 ^ k : Nat) : Int) := ⟨_, rfl⟩
    have HS := Lib.hid (fun c => by have := HS.out c; unfold SetE at this; rw [← ht] at this; exact this)
    rw [← ht] at hand
    generalize x &&& 2 ^ k = y at hand hne
    generalize bt x k = q at hne HR
    clear HH HY hk e hk2 R2 hs1 ht hok K1
    have hz : (w1.alloc (.cells #[.int .i64 u, .int .i64 v] 79)).heap.size = w1.heap.size + 1 := by simp
    have hsz := hbw.size
    go_wp2_with fail
    refine (HS.out _).mono ?_
    rintro e w2 ⟨rfl, hb2⟩
    have hbw3 := hbw2.trans (hb2.mono (by omega))
    clear HS hb2 c0 c1
    go_wp2
    go_ret
    exact mkBol (by rw [HR.out]; rfl) hbw3
  · have HR := Lib.hid (show r = false by rw [HH.out, okB_not hok]; rfl)
    rw [okB_not hok]
    clear HH HY
    go_wp2
    go_ret
    exact mkBol (by rw [HR.out]) hbw

theorem eqNil (w : World) : (binOp .eql 27 (.slice none 0 0) (.slice none 0 0)).run Tryz.prog w = .ok (.bool true) w := by kernel_rfl
theorem eqSome (a : Addr) (n c : Nat) (w : World) : (binOp .eql 27 (.slice (some a) n c) (.slice none 0 0)).run Tryz.prog w = .ok (.bool false) w := by kernel_rfl
def DmsE (L : List Dm) (m : Nat) (w : World) (e : Ending) (w' : World) : Prop := ∃ A cap, e = .returned (.slice A m cap) ∧ w'.ownsRow w.heap.size 63 3 (.slice A m cap) m (rowM L) ∧ Below w.heap.size w w'
set_option maxRecDepth 100000 in
set_option maxHeartbeats 1000000 in
theorem iClone (w : World) (A : Option Addr) (m cap lo : Nat) (L : List Dm) (hm : (m : Int) ≤ 1000) (hown : w.ownsRow lo 63 3 (.slice A m cap) m (rowM L)) :
    Calls Tryz.prog 110 #[.slice A m cap] w (DmsE L m w) := by
  obtain ⟨i0, hi, hz0, hz1, hz2⟩ := info_parts domInfo
  have hlen := hown.1
  rcases hown.2 with ⟨h1, h2⟩ | ⟨g, cap', cur, h1, hlo, hg, _⟩
  · injection h1 with e1 e2 e3
    subst e1 e2 e3
    have hq := eqNil w
    have HP := Lib.hid (show DmsE L 0 w (.returned (.slice none 0 0)) w from ⟨none, 0, rfl, ⟨hlen, .inl ⟨rfl, rfl⟩⟩, Below.refl _ _⟩)
    clear hown hlen
    go_enter Tryz.func110, Tryz.ntmps110
    go_wp2
    go_ret
    exact HP.out
  · injection h1 with e1 e2 e3
    subst e1 e3
    have hq := eqSome ⟨g, 0, none⟩ m cap w
    have HAl := Lib.hid (below_alloc1 w (.cells #[] 63))
    have HMd := Lib.hid (World.ownsRow_made (e := 63) (size := 3) w #[] 0 (Nat.le_refl _) (by unfold maxLen; omega) rfl)
    have HO := Lib.hid (hown.alloc (.cells #[] 63))
    have HLn := Lib.hid hlen
    have hsz : (w.alloc (.cells #[] 63)).heap.size = w.heap.size + 1 := by simp
    clear hown hlen
    go_enter Tryz.func110, Tryz.ntmps110
    go_wp2_with (first
      | (at_builtin
         refine append_any _ rfl _ _ 27 rfl w.heap.size 63 i0 (.agg #[.int .i64 0, .int .i64 0, .bool false]) 3 24 Tryz.underlying27 hi hz0 hz1 hz2 rfl (by decide) w.heap.size 0 0 [] (by rfl) HMd.out ⟨g, 0, none⟩ m cap (rowM L) (by rfl) HLn.out (fun j u hu => HO.out.cells (g := g) rfl j u hu) (rowM_ones _) (by unfold maxLen; omega) (by omega) (by omega) ?_
         intro g6 c6 w6 hown6 hgr6 hat6 hlt6
         have hb6 : Below w.heap.size w w6 := HAl.out.grown hgr6 (by omega) (fun q hq => by have hq2 : w.heap.size = q := by { injection hq }; omega)
         rw [Nat.zero_add, List.nil_append] at hown6))
    go_ret
    exact ⟨_, _, rfl, hown6, hb6⟩
end Go.Proofs.YtmajllgfmclcoaaGreatDoor.Sets
