/- StC, DrU, TilM, Dss, LisS in one text. -/
import Derived.Test.YtieophdbhnpncaaGreatMh27
import Derived.Test.YtieophdbhnpncaaGreatMh11
import Derived.Test.YtieophdbhnpncaaGreatMh04
import Derived.Test.YtieophdbhnpncaaGreatMh26
import Derived.Test.YtieophdbhnpncaaGreatMh02
import Derived.Test.YtieophdbhnpncaaGreatMh22
import Derived.Test.YtieophdbhnpncaaGreatMh03
import Derived.Laws.OwnMore
import Derived.Deep.RegionHeld3
import Derived.Test.YtieophdbhnpncaaGreatMh05
import Derived.Test.YtieophdbhnpncaaGreatMh23
import Derived.Test.YtieophdbhnpncaaGreatMh01

namespace Go.Proofs.YtieophdbhnpncaaGreat.Prof
set_option linter.unusedVariables false
set_option maxRecDepth 100000
set_option linter.unusedSimpArgs false
open Go.RowKit Go.Proofs.YtieophdbhnpncaaGreat.Pure Go.Proofs.YtieophdbhnpncaaGreat.Cell Go.Proofs.YtieophdbhnpncaaGreat.Reg Go.Proofs.YtieophdbhnpncaaGreat.Cnt Go.Joins

set_option maxRecDepth 100000 in
set_option maxHeartbeats 1000000 in
theorem sCountTilings (w : World) (A : Option Addr) (n cap B : Nat) (xs : List Int) (hx : xs.length = n) (hn : (n : Int) ≤ 9223372036854775807) (h : RowB w B A xs) (hB : B ≤ w.heap.size) :
  Calls Tryz.prog 85 #[.agg #[.slice A n cap]] w (Num (tilesR xs) w) := by
 have T0 := Lib.hid (fun (T : TypeId) => rb_start (T := T) (.slice A n cap) w)
 have HOk := Lib.hid (fun W (hb : RB w (.slice A n cap) W) => sRegionOk W A n cap B xs hx hn (h.below hb.1 hB) (by have := hb.2.1; omega))
 have HC := Lib.hid (fun W (ho : okR xs) (hb : RB w (.slice A n cap) W) => show Calls Tryz.prog 83 #[.agg #[.slice A n cap]] W (Num (tilesR xs) W) from by rw [tilesR_ok ho]; exact sCount W A n cap B xs hx ho (h.below hb.1 hB) (by have := hb.2.1; omega))
 by_cases ho : okR xs
 ·rw [okRB_of ho] at HOk
  have HC1 := Lib.hid (fun W (hb : RB w (.slice A n cap) W) => HC.out W ho hb)
  generalize tilesR xs = t at HC1 ⊢
  clear hx hn h ho HC
  go_enter Tryz.func85, Tryz.ntmps85
  go_wp2_with fail
  refine (HOk.out _ (T0.out _)).mono ?_
  rintro e w1 ⟨rfl, hb1⟩
  have T1 := (T0.out 26).on hb1
  have c1 := T1.2.2
  clear T0 HOk hb1
  go_wp2_with fail
  refine (HC1.out _ T1).mono ?_
  rintro e w2 ⟨rfl, hb2⟩
  have T2 := T1.on hb2
  clear T1 c1 HC1 hb2
  go_wp2
  go_ret
  exact ⟨rfl, T2.1⟩
 ·rw [okRB_not ho] at HOk
  have HE := Lib.hid (tilesR_not ho)
  clear hx hn h ho HC
  go_enter Tryz.func85, Tryz.ntmps85
  go_wp2_with fail
  refine (HOk.out _ (T0.out _)).mono ?_
  rintro e w1 ⟨rfl, hb1⟩
  have T1 := (T0.out 26).on hb1
  clear T0 HOk hb1
  go_wp2
  go_ret
  exact mkNum HE.out.symm T1.1

end Go.Proofs.YtieophdbhnpncaaGreat.Prof

namespace Go.Proofs.YtieophdbhnpncaaGreat.Tile
set_option linter.unusedVariables false
set_option maxRecDepth 100000
set_option linter.unusedSimpArgs false
open Go.RowKit Go.Proofs.YtieophdbhnpncaaGreat.Reg Go.Proofs.YtieophdbhnpncaaGreat.Draw Go.Joins
open Go.Proofs.YtieophdbhnpncaaGreat.Cnt hiding own_cell

def Dt (w : World) (B g : Nat) (A : Option Addr) (len cap : Nat) (W : World) : Prop :=
 (Cur W B g A len cap ∧ g < w.heap.size) ∧ w.grownBy W (some g) ∧ w.heap.size + 1 ≤ W.heap.size ∧ W.heap[w.heap.size]? = some (.cells #[.slice none 0 0] 26)
section
variable {w W W' : World} {B g : Nat} {A : Option Addr} {len cap : Nat}
theorem Dt.on (h : Dt w B g A len cap W) (hc : Cur W' B g A len cap) (hg : W.grownBy W' (some g)) : Dt w B g A len cap W' := by
 obtain ⟨⟨_, h1⟩, h2, h3, h4⟩ := h
 have hz := hg.size
 exact ⟨⟨hc, h1⟩, grown_trans h2 hg, by omega, (hg.block w.heap.size (by omega) (fun e => by injection e with e; omega)).trans h4⟩
theorem Dt.later (h : Dt w B g A len cap W) (hb : Below W.heap.size W W') : Dt w B g A len cap W' :=
 h.on (h.1.1.later (grown_below hb none) (by simp) (fun k hk => by cases hk)) (grown_below hb _)
theorem Dt.cell (h : Dt w B g A len cap W) : W.cell? ⟨w.heap.size, 0, none⟩ = some (.slice none 0 0) ∧ W.frozen? ⟨w.heap.size, 0, none⟩ = false := ⟨(cellAt h.2.2.2 0).1.trans rfl, (cellAt h.2.2.2 0).2⟩
end
end Go.Proofs.YtieophdbhnpncaaGreat.Tile

namespace Go.Proofs.YtieophdbhnpncaaGreat.Til
set_option linter.unusedVariables false
set_option linter.unusedSimpArgs false
open Go.RowKit Go.Proofs.YtieophdbhnpncaaGreat.Dms Go.Joins
open Go.Proofs.YtieophdbhnpncaaGreat.Reg hiding add_none

theorem domInfo : (Tryz.prog.info? 67).map (fun i => (i.zero, i.size, i.bytes)) = some (some (.agg #[.int .i64 0, .int .i64 0, .bool false]), 3, 24) := by kernel_rfl
def DmPost (L : List Dm) (n : Nat) (w : World) (e : Ending) (w' : World) : Prop :=
 ∃ A cap, e = .returned (.slice A n cap) ∧ n ≤ cap ∧ w'.ownsRow w.heap.size 67 3 (.slice A n cap) n (rowM L) ∧ Below w.heap.size w w'
end Go.Proofs.YtieophdbhnpncaaGreat.Til

namespace Go.Proofs.YtieophdbhnpncaaGreat.Dss
set_option linter.unusedVariables false
set_option linter.unusedSimpArgs false
open Go.RowKit Go.Proofs.YtieophdbhnpncaaGreat.Dms Go.Joins
open Go.Proofs.YtieophdbhnpncaaGreat.Reg hiding add_none

def blk (a : Option Addr) : Option Nat := a.map (·.block)
theorem ownBlock_slice (a : Option Addr) (n c : Nat) : (Value.slice a n c).ownBlock = blk a := by cases a <;> rfl
def Dif (a b : Option Addr) : Prop := ∀ g, blk a = some g → blk b ≠ some g
theorem dif_types {W : World} {lo lo' e e' size size' n n' : Nat} {A A' : Option Addr} {c c' m m' : Nat} {xs xs' : List Value} (h : W.ownsRow lo e size (.slice A m c) n xs) (h' : W.ownsRow lo' e' size' (.slice A' m' c') n' xs') (hne : e ≠ e') : Dif A A' := by
 intro g h1 h2
 rcases h.2 with ⟨hv, _⟩ | ⟨g1, cap1, cur1, hv, _, hg1, _⟩
 ·injection hv with hA; subst hA; cases h1
 ·injection hv with hA; subst hA
  rcases h'.2 with ⟨hv', _⟩ | ⟨g2, cap2, cur2, hv', _, hg2, _⟩
  ·injection hv' with hA'; subst hA'; cases h2
  ·injection hv' with hA'; subst hA'
   simp [blk] at h1 h2
   subst h1; subst h2
   rw [hg1] at hg2
   injection hg2 with hg2
   injection hg2 with _ hg2
   exact hne hg2
def outs (h : Nat) (S : List (Option Addr × Nat)) : List Value := S.map fun s : Option Addr × Nat => Value.slice s.1 h s.2
theorem outs_at {h : Nat} {S : List (Option Addr × Nat)} {i : Nat} {s : Option Addr × Nat} (hs : S[i]? = some s) : (outs h S)[i]? = some (.slice s.1 h s.2) := by unfold outs; rw [List.getElem?_map, hs]; rfl
def Ins (W : World) (lo hi h : Nat) (L : List (List Dm)) (S : List (Option Addr × Nat)) : Prop :=
 S.length = L.length ∧ (∀ (i : Nat) (s : Option Addr × Nat) (x : List Dm), S[i]? = some s → L[i]? = some x → RowIn W lo hi 67 3 (.slice s.1 h s.2) h (rowM x)) ∧ S.Pairwise (fun s t : Option Addr × Nat => Dif s.1 t.1)
def SSl (W : World) (lo hi : Nat) (A : Option Addr) (m cap h : Nat) (L : List (List Dm)) (S : List (Option Addr × Nat)) : Prop :=
 RowIn W lo hi 27 1 (.slice A m cap) m (outs h S) ∧ Ins W lo hi h L S
def SSIn (W : World) (lo hi : Nat) (A : Option Addr) (m cap h : Nat) (L : List (List Dm)) : Prop := ∃ S, SSl W lo hi A m cap h L S
theorem Ins.nil (W : World) (lo hi h : Nat) : Ins W lo hi h [] [] := ⟨rfl, fun i s x hs => by simp at hs, List.Pairwise.nil⟩
theorem RowIn.wide {W : World} {lo hi lo' hi' e size n : Nat} {v : Value} {xs : List Value} (h : RowIn W lo hi e size v n xs) (h1 : lo' ≤ lo) (h2 : hi ≤ hi') : RowIn W lo' hi' e size v n xs :=
 ⟨own_base h.1 h1, fun g hg => by have := h.2 g hg; omega⟩
theorem Ins.wide {W : World} {lo hi lo' hi' h : Nat} {L : List (List Dm)} {S : List (Option Addr × Nat)} (k : Ins W lo hi h L S) (h1 : lo' ≤ lo) (h2 : hi ≤ hi') : Ins W lo' hi' h L S :=
 ⟨k.1, fun i s x hs hx => RowIn.wide (k.2.1 i s x hs hx) h1 h2, k.2.2⟩
theorem Ins.on {W W' : World} {lo hi h : Nat} {L : List (List Dm)} {S : List (Option Addr × Nat)} (k : Ins W lo hi h L S) (hb : Below W.heap.size W W') : Ins W' lo hi h L S :=
 ⟨k.1, fun i s x hs hx => (k.2.1 i s x hs hx).on hb, k.2.2⟩
theorem SSIn.wide {W : World} {lo hi lo' hi' m cap h : Nat} {A : Option Addr} {L : List (List Dm)} (k : SSIn W lo hi A m cap h L) (h1 : lo' ≤ lo) (h2 : hi ≤ hi') : SSIn W lo' hi' A m cap h L := by
 obtain ⟨S, k1, k2⟩ := k
 exact ⟨S, RowIn.wide k1 h1 h2, k2.wide h1 h2⟩
theorem rows_dif {W : World} {lo hi lo' hi' e e' size size' n n' m m' c c' : Nat} {A A' : Option Addr} {xs xs' : List Value} (h : RowIn W lo hi e size (.slice A m c) n xs) (h' : RowIn W lo' hi' e' size' (.slice A' m' c') n' xs') (hd : hi ≤ lo') : Dif A A' := by
 intro g h1 h2
 have a := h.2 g (by rw [ownBlock_slice]; exact h1)
 have b := (h'.1.lt g (by rw [ownBlock_slice]; exact h2)).1
 omega
theorem Ins.app {W : World} {lo hi lo' hi' h : Nat} {L L' : List (List Dm)} {S S' : List (Option Addr × Nat)} (k : Ins W lo hi h L S) (k' : Ins W lo' hi' h L' S') (h1 : lo ≤ hi) (hd : hi ≤ lo') (h2 : lo' ≤ hi') : Ins W lo hi' h (L ++ L') (S ++ S') := by
 refine ⟨by rw [List.length_append, List.length_append, k.1, k'.1], fun i s x hs hx => ?_, ?_⟩
 ·by_cases hi' : i < S.length
  ·rw [List.getElem?_append_left hi'] at hs
   rw [List.getElem?_append_left (by rw [← k.1]; exact hi')] at hx
   exact RowIn.wide (k.2.1 i s x hs hx) (Nat.le_refl _) (by omega)
  ·rw [List.getElem?_append_right (by omega)] at hs
   rw [List.getElem?_append_right (by rw [← k.1]; omega), ← k.1] at hx
   exact RowIn.wide (k'.2.1 _ s x hs hx) (by omega) (Nat.le_refl _)
 ·rw [List.pairwise_append]
  refine ⟨k.2.2, k'.2.2, fun s hs t ht => ?_⟩
  obtain ⟨i, hi1, e1⟩ := List.getElem_of_mem hs
  obtain ⟨j, hj1, e2⟩ := List.getElem_of_mem ht
  have r1 := k.2.1 i s _ (by rw [List.getElem?_eq_getElem hi1, e1]) (List.getElem?_eq_getElem (by rw [← k.1]; exact hi1))
  have r2 := k'.2.1 j t _ (by rw [List.getElem?_eq_getElem hj1, e2]) (List.getElem?_eq_getElem (by rw [← k'.1]; exact hj1))
  exact rows_dif r1 r2 hd
theorem Ins.one {W : World} {lo hi h c : Nat} {A : Option Addr} {x : List Dm} (k : RowIn W lo hi 67 3 (.slice A h c) h (rowM x)) : Ins W lo hi h [x] [(A, c)] := by
 refine ⟨rfl, fun i s y hs hy => ?_, by simp⟩
 cases i with
 | zero => simp at hs hy; subst hs; subst hy; exact k
 | succ i => simp at hs

end Go.Proofs.YtieophdbhnpncaaGreat.Dss

namespace Go.Proofs.YtieophdbhnpncaaGreat.Lis
set_option linter.unusedVariables false
set_option linter.unusedSimpArgs false
open Go.RowKit Go.Proofs.YtieophdbhnpncaaGreat.Pure Go.Proofs.YtieophdbhnpncaaGreat.Cell Go.Proofs.YtieophdbhnpncaaGreat.Dom Go.Proofs.YtieophdbhnpncaaGreat.Dms Go.Proofs.YtieophdbhnpncaaGreat.Til Go.Proofs.YtieophdbhnpncaaGreat.Dss Go.Joins
open Go.Proofs.YtieophdbhnpncaaGreat.Cnt (gR tiles gR_in gR_out)
open Go.Proofs.YtieophdbhnpncaaGreat.Reg hiding add_none RC rc_start

theorem append_any {P : Program} (w : World) {ops : Array Oper} {rest : List Oper} {o : Oper} {a : Act} {Q : Exit → Act → World → Prop} (hgd : o.guard = none) (s x : Operand) (t : TypeId)
  (ho : o.op = .call { callee := .builtin .append, args := #[s, x], argTypes := #[t, t] })
  (base : Nat) (e : TypeId) (i : TypeInfo) (z : Value) (size bytes : Nat) (ht : P.underlying t = some (.slice e)) (hi : P.info? e = some i) (hz : i.zero = some z)
  (hsize : i.size = size) (hby : i.bytes = bytes) (hzs : z.cells.size = size) (hsz : 0 < size)
  (g n cap : Nat) (xs : List Value) (hs : a.eval s = .slice (some ⟨g, 0, none⟩) n cap) (hown : w.ownsRow base e size (.slice (some ⟨g, 0, none⟩) n cap) n xs)
  (ad : Addr) (m c : Nat) (news : List Value) (hx : a.eval x = .slice (some ad) m c) (hl : news.length = m * size) (hnews : ∀ j u, news[j]? = some u → w.cell? (ad.add j) = some u) (h1 : ∀ u ∈ news, u.oneCell' = true)
  (h63 : n + m ≤ maxLen) (hbytes : (n + m) * bytes ≤ 140737488355328) (hbase : base ≤ w.heap.size)
  (h : ∀ g' cap' w', w'.ownsRow base e size (.slice (some ⟨g', 0, none⟩) (n + m) cap') (n + m) (xs ++ news) → w.grownBy w' (some g) → (g' = g ∨ g' = w.heap.size) → g' < w'.heap.size → wpList P ops Q rest (a.put o.dst (.slice (some ⟨g', 0, none⟩) (n + m) cap')) w') : wpList P ops Q (o :: rest) a w := by
 rcases Nat.eq_zero_or_pos m with h0 | h0
 ·refine wpList_append_fits w hgd s x t ho base e i size ht hi hsize g n cap xs hs hown ad m c news hx hl hnews h1 (by
   rcases hown.2 with ⟨q, _⟩ | ⟨g', cap', cur, q, _, _, h1, _⟩
   ·cases q
   ·injection q with _ _ qc
    subst qc; omega) ?_
  intro w' k1 k2
  exact h g cap w' k1 k2 (.inl rfl) (k1.lt g rfl).2
 ·refine wpList_append_lies w hgd s x t ho base e i z size bytes ht hi hz hsize hby hzs hsz _ n xs hs hown ad m c news hx hl hnews h1 h0 h63 hbytes hbase w.heap.size rfl ?_
  intro g' cap' w' k1 k2 k3 k4
  refine h g' cap' w' k1 k2 ?_ k4
  rcases k3 with k3 | k3
  ·injection k3 with k3; exact .inl k3.symm
  ·exact .inr k3

theorem step_append_any {P : Program} (w : World) {ops : Array Oper} {o : Oper} {a : Act} {K : Act → World → Prop} {Q : Exit → Act → World → Prop} {E : Prop} (hgd : o.guard = none) (s x : Operand) (t : TypeId)
  (ho : o.op = .call { callee := .builtin .append, args := #[s, x], argTypes := #[t, t] })
  (base : Nat) (e : TypeId) (i : TypeInfo) (z : Value) (size bytes : Nat) (ht : P.underlying t = some (.slice e)) (hi : P.info? e = some i) (hz : i.zero = some z)
  (hsize : i.size = size) (hby : i.bytes = bytes) (hzs : z.cells.size = size) (hsz : 0 < size)
  (g n cap : Nat) (xs : List Value) (hs : a.eval s = .slice (some ⟨g, 0, none⟩) n cap) (hown : w.ownsRow base e size (.slice (some ⟨g, 0, none⟩) n cap) n xs)
  (ad : Addr) (m c : Nat) (news : List Value) (hx : a.eval x = .slice (some ad) m c) (hl : news.length = m * size) (hnews : ∀ j u, news[j]? = some u → w.cell? (ad.add j) = some u) (h1 : ∀ u ∈ news, u.oneCell' = true)
  (h63 : n + m ≤ maxLen) (hbytes : (n + m) * bytes ≤ 140737488355328) (hbase : base ≤ w.heap.size)
  (h : ∀ g' cap' w', w'.ownsRow base e size (.slice (some ⟨g', 0, none⟩) (n + m) cap') (n + m) (xs ++ news) → w.grownBy w' (some g) → (g' = g ∨ g' = w.heap.size) → g' < w'.heap.size → K (a.put o.dst (.slice (some ⟨g', 0, none⟩) (n + m) cap')) w') :
  if Region.wanted o (yielded ops a.tmps) = true then Oper.wp P o a w K Q else E := by
 have hw : Region.wanted o (yielded ops a.tmps) = true := by simp [Region.wanted, hgd]
 rw [if_pos hw]
 rcases Nat.eq_zero_or_pos m with h0 | h0
 ·obtain ⟨w', hr, k1, k2⟩ := run_append_fits (P := P) w base t o.type e i size ht hi hsize g n cap xs hown ad m c news hl hnews h1 (by
   rcases hown.2 with ⟨q, _⟩ | ⟨g', cap', cur, q, _, _, h1, _⟩
   ·cases q
   ·injection q with _ _ qc
    subst qc; omega)
  unfold Oper.wp execOp
  simp only [ho, resolve, invoke, builtin, Sem.run_bind, Sem.run_pure, Result.andThen_ok, List.map_toArray, List.map_cons, List.map_nil, hs, hx, hr]
  exact h g cap w' k1 k2 (.inl rfl) (k1.lt g rfl).2
 ·refine wp_append_lies w s x t ho base e i z size bytes ht hi hz hsize hby hzs hsz _ n xs hs hown ad m c news hx hl hnews h1 h0 h63 hbytes hbase w.heap.size rfl ?_
  intro g' cap' w' k1 k2 k3 k4
  refine h g' cap' w' k1 k2 ?_ k4
  rcases k3 with k3 | k3
  ·injection k3 with k3; exact .inl k3.symm
  ·exact .inr k3

def SSPost (L : List (List Dm)) (h : Nat) (w : World) (e : Ending) (w' : World) : Prop :=
 ∃ g cap, e = .returned (.slice (some ⟨g, 0, none⟩) L.length cap) ∧ SSIn w' w.heap.size w'.heap.size (some ⟨g, 0, none⟩) L.length cap h L ∧ Below w.heap.size w w'
structure Lst (w : World) (va : Value) (bC offC : Nat) (C : List (Int × Int)) (h : Nat) (L : List (List Dm)) (go co : Nat) (W : World) : Prop where
 bel : Below w.heap.size w W
 box : Rg W w.heap.size va
 cs : RdC W bC offC C
 ne : 0 < C.length → w.heap.size + 2 ≤ bC ∧ go ≠ bC
 out : ∃ S, W.ownsRow (w.heap.size + 1) 27 1 (.slice (some ⟨go, 0, none⟩) L.length co) L.length (outs h S) ∧ Ins W (w.heap.size + 1) W.heap.size h L S
section
variable {w : World} {va : Value} {bC offC : Nat} {C : List (Int × Int)} {h : Nat} {L : List (List Dm)} {go co : Nat} {W W' : World}
theorem Lst.on (k : Lst w va bC offC C h L go co W) (hb : Below W.heap.size W W') : Lst w va bC offC C h L go co W' := by
 obtain ⟨S, s1, s2⟩ := k.out
 exact ⟨k.bel.trans (hb.mono k.bel.size), k.box.on hb, k.cs.on hb, k.ne, S, Reg.own_below s1 hb (Nat.le_refl _), (s2.on hb).wide (Nat.le_refl _) hb.size⟩
theorem Lst.drew (k : Lst w va bC offC C h L go co W) : Lst w va bC offC C h L go co W.drew := by
 obtain ⟨S, s1, s2⟩ := k.out
 exact ⟨k.bel.drew, k.box, k.cs, k.ne, S, s1, s2⟩
theorem Ins.grown {lo hi lo' m c g : Nat} {xs : List Value} {S : List (Option Addr × Nat)} (k : Ins W lo hi h L S) (ho : W.ownsRow lo' 27 1 (.slice (some ⟨g, 0, none⟩) m c) m xs) (hg : W.grownBy W' (some g)) : Ins W' lo hi h L S := by
 refine ⟨k.1, fun i s x hs hx => ?_, k.2.2⟩
 have r := k.2.1 i s x hs hx
 refine ⟨r.1.kept hg (.inr (fun e => ?_)), r.2⟩
 rw [ownBlock_slice] at e
 exact dif_types ho r.1 (by decide) g rfl e
theorem Lst.app {S' : List (Option Addr × Nat)} {L' : List (List Dm)} {go' co' m' : Nat} (k : Lst w va bC offC C h L go co W) (S : List (Option Addr × Nat)) (hS : W.ownsRow (w.heap.size + 1) 27 1 (.slice (some ⟨go, 0, none⟩) L.length co) L.length (outs h S))
  (hI : Ins W (w.heap.size + 1) W.heap.size h (L ++ L') (S ++ S')) (hm : m' = (L ++ L').length) (hg : W.grownBy W' (some go)) (hat : go' = go ∨ go' = W.heap.size)
  (hown : W'.ownsRow (w.heap.size + 1) 27 1 (.slice (some ⟨go', 0, none⟩) m' co') m' (outs h S ++ outs h S')) : Lst w va bC offC C h (L ++ L') go' co' W' := by
 subst hm
 have hgo := hS.lt go rfl
 refine ⟨k.bel.grown hg k.bel.size (fun j hj => by injection hj; omega), (hg.block _ k.box.lt (by intro e; injection e with e; omega)).trans k.box, k.cs.grown hg (fun h0 => (k.ne h0).2), fun h0 => ⟨(k.ne h0).1, ?_⟩, S ++ S', ?_, (Ins.grown hI hS hg).wide (Nat.le_refl _) hg.size⟩
 ·have a := k.ne h0
  have b := k.cs.1 h0
  rcases hat with e | e <;> omega
 ·have e : outs h (S ++ S') = outs h S ++ outs h S' := by unfold outs; rw [List.map_append]
  rw [e]; exact hown
theorem Lst.post (k : Lst w va bC offC C h L go co W) : SSPost L h w (.returned (.slice (some ⟨go, 0, none⟩) L.length co)) W := by
 obtain ⟨S, s1, s2⟩ := k.out
 exact ⟨go, co, rfl, ⟨S, ⟨Reg.own_base s1 (by omega), fun g hg => (s1.lt g hg).2⟩, s2.wide (by omega) (Nat.le_refl _)⟩, k.bel⟩
end
theorem can_is {xs : List Int} (ho : okR xs) {M : List Dm} {c : Nat} (hc : c < 64) (b : Bool) : canB xs M c b = (okM (dmN c b) && (hasB xs (sx (dmN c b).1 b) (sy (dmN c b).2.1 b) && !anyM M (sx (dmN c b).1 b) (sy (dmN c b).2.1 b))) := by
 rw [Bool.eq_iff_iff]
 constructor
 ·intro h
  obtain ⟨h1, h2, h3⟩ := can_lt h
  obtain ⟨o1, o2, o3⟩ := oth_ok h1 h2
  rw [gM_iff] at h3
  rw [o1, o2, o3, has_place ho h3.1, h3.2]; rfl
 ·intro h
  rw [Bool.and_eq_true, Bool.and_eq_true] at h
  obtain ⟨h1, h2, h3⟩ := h
  have hk : (b = false → c % 8 ≠ 7) ∧ oth c b < 64 := by
   unfold okM domB dmN at h1
   rw [Bool.and_eq_true, okB_iff, okB_iff] at h1
   unfold Ok at h1
   cases b
   ·simp only [sx, sy, Bool.false_eq_true, if_false] at h1
    unfold wrap64 at h1
    unfold oth
    simp only [Bool.false_eq_true, if_false]
    exact ⟨fun _ => by omega, by omega⟩
   ·simp only [sx, sy, if_true] at h1
    unfold wrap64 at h1
    unfold oth
    simp only [if_true]
    first
     | omega
     | exact ⟨fun h => (by cases h), by omega⟩
     | exact ⟨trivial, by omega⟩
     | exact ⟨fun _ => by omega, by omega⟩
  obtain ⟨o1, o2, o3⟩ := oth_ok hk.2 hk.1
  rw [o2, o3] at h2 h3
  unfold canB
  have g := place_has hk.2 h2
  have : gM xs M (oth c b) = true := gM_iff.2 ⟨g, by simpa using h3⟩
  rw [this, Bool.and_true]
  cases b
  ·simpa using hk.1 rfl
  ·rfl
def pre (xs : List Int) (M : List Dm) (c t : Nat) : List (List Dm) := if t = 0 then [] else if t = 1 then one xs M c false else one xs M c false ++ one xs M c true
theorem pre_step {xs : List Int} {M : List Dm} {c t : Nat} (ht : t < 2) : pre xs M c (t + 1) = pre xs M c t ++ one xs M c (decide (t = 1)) := by
 match t, ht with
 | 0, _ => simp [pre]
 | 1, _ => simp [pre]
theorem pre_full {xs : List Int} {M : List Dm} {c t : Nat} (ht : t ≤ 2) : ∃ Y, pre xs M c 2 = pre xs M c t ++ Y := by
 match t, ht with
 | 0, _ => exact ⟨_, by simp [pre]; rfl⟩
 | 1, _ => exact ⟨one xs M c true, by simp [pre]⟩
 | 2, _ => exact ⟨[], by simp⟩
theorem pre_stop {xs : List Int} {M : List Dm} {c t most : Nat} {L : List (List Dm)} (ht : t ≤ 2) (hL : L = (pre xs M c t).take most) (h : t = 2 ∨ most ≤ L.length) : L = (pre xs M c 2).take most := by
 rcases h with h | h
 ·rw [hL, h]
 ·obtain ⟨Y, e⟩ := pre_full (xs := xs) (M := M) (c := c) ht
  rw [e, take_two, hL]
  have hl : most ≤ (pre xs M c t).length := by rw [hL, List.length_take] at h; omega
  rw [show most - (pre xs M c t).length = 0 by omega, List.take_zero, List.append_nil]
theorem pre_more {xs : List Int} {M : List Dm} {c t most : Nat} {L : List (List Dm)} (ht : t < 2) (hL : L = (pre xs M c t).take most) (hlt : L.length < most) : (pre xs M c (t + 1)).take most = L ++ (one xs M c (decide (t = 1))).take (most - L.length) := by
 rw [pre_step ht, take_two, ← hL]
 congr 2
 rw [hL, List.length_take] at hlt ⊢
 omega
theorem cont_half {xs : List Int} (ho : okR xs) {M : List Dm} {k : Nat} (hb : Beg xs k M) (hk : k ≤ 64) (h0 : ∀ i, i < k → gM xs M i = false) : ∀ L ∈ cont xs M, L.length = (cellsR xs).length / 2 := by
 intro L hL
 unfold cont at hL
 obtain ⟨L', hL', rfl⟩ := List.mem_map.1 hL
 rw [LsG_from h0 hk] at hL'
 exact til_half (Ls_til ho (64 - k) k M (by omega) hb h0 L' hL')
end Go.Proofs.YtieophdbhnpncaaGreat.Lis
