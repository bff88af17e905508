/- Dominoes laid one after the other, at random, by the model: partial, in memory of the call's own. -/
import Derived.Test.YtpeolcgogidipaaDoorGrdP
import Derived.Test.YtpeolcgogidipaaDoorTilI
import Derived.Test.YtpeolcgogidipaaDoorTilM
import Derived.Test.YtpeolcgogidipaaDoorDrawR
import Derived.Test.YtpeolcgogidipaaDoorDomF
import Derived.Test.YtpeolcgogidipaaDoorDomO
namespace Go.Proofs.YtpeolcgogidipaaDoor.Grd
set_option linter.unusedVariables false
set_option linter.unusedSimpArgs false
open Go.RowKit Go.Proofs.YtpeolcgogidipaaDoor.Base Go.Proofs.YtpeolcgogidipaaDoor.Pure Go.Proofs.YtpeolcgogidipaaDoor.Cell Go.Proofs.YtpeolcgogidipaaDoor.Cels Go.Proofs.YtpeolcgogidipaaDoor.Dom Go.Proofs.YtpeolcgogidipaaDoor.Dms Go.Proofs.YtpeolcgogidipaaDoor.Til Go.Proofs.YtpeolcgogidipaaDoor.Draw Go.Joins
open Go.Proofs.YtpeolcgogidipaaDoor.Reg hiding Yes add_none RC rc_start

/-- an append of some cells or of none: the row lies where it lay, or in the next new block. -/
theorem wpList_append_any {P : Program} (w : World) {ops : Array Oper} {rest : List Oper} {o : Oper} {a : Act} {Q : Exit → Act → World → Prop} (hgd : o.guard = none) (s x : Operand) (t : TypeId)
    (ho : o.op = .call { callee := .builtin .append, args := #[s, x], argTypes := #[t, t] })
    (base : Nat) (e : TypeId) (i : TypeInfo) (z : Value) (size bytes : Nat) (ht : P.underlying t = some (.slice e)) (hi : P.info? e = some i) (hz : i.zero = some z)
    (hsize : i.size = size) (hby : i.bytes = bytes) (hzs : z.cells.size = size) (hsz : 0 < size)
    (g n cap : Nat) (xs : List Value) (hs : a.eval s = .slice (some ⟨g, 0, none⟩) n cap) (hown : w.ownsRow base e size (.slice (some ⟨g, 0, none⟩) n cap) n xs)
    (ad : Addr) (m c : Nat) (news : List Value) (hx : a.eval x = .slice (some ad) m c) (hl : news.length = m * size) (hnews : ∀ j u, news[j]? = some u → w.cell? (ad.add j) = some u) (h1 : ∀ u ∈ news, u.oneCell' = true)
    (h63 : n + m ≤ maxLen) (hbytes : (n + m) * bytes ≤ 140737488355328) (hbase : base ≤ w.heap.size)
    (h : ∀ g' cap' w', w'.ownsRow base e size (.slice (some ⟨g', 0, none⟩) (n + m) cap') (n + m) (xs ++ news) → w.grownBy w' (some g) → (g' = g ∨ g' = w.heap.size) → g' < w'.heap.size → wpList P ops Q rest (a.put o.dst (.slice (some ⟨g', 0, none⟩) (n + m) cap')) w') : wpList P ops Q (o :: rest) a w := by
  rcases Nat.eq_zero_or_pos m with h0 | h0
  · have hnc : n ≤ cap := by
      rcases hown.2 with ⟨q, _⟩ | ⟨g', cap', cur, q, _, _, h1, _⟩
      · cases q
      · injection q with _ _ qc
        subst qc; exact h1
    refine wpList_append_fits w hgd s x t ho base e i size ht hi hsize g n cap xs hs hown ad m c news hx hl hnews h1 (by omega) ?_
    intro w' k1 k2
    refine h g cap w' k1 k2 (.inl rfl) ?_
    exact (k1.lt g rfl).2
  · refine wpList_append_lies w hgd s x t ho base e i z size bytes ht hi hz hsize hby hzs hsz _ n xs hs hown ad m c news hx hl hnews h1 h0 h63 hbytes hbase w.heap.size rfl ?_
    intro g' cap' w' k1 k2 k3 k4
    refine h g' cap' w' k1 k2 ?_ k4
    rcases k3 with k3 | k3
    · injection k3 with k3; exact .inl k3.symm
    · exact .inr k3

theorem wp_of_rest2 {P : Program} {c : Code} {Q : Exit → Act → World → Prop} {a : Act} {w : World} (F : Nat → Bool → Act) (Rel : World → Nat → Bool → Prop)
    (h : ∀ Q : Exit → Act → World → Prop, (∀ W p b, Rel W p b → Q .normal (F p b) W) → c.wp P Q a w) (k : ∀ W p b, Rel W p b → Q .normal (F p b) W) : c.wp P Q a w := h Q k
theorem at3_grown {T : TypeId} {W W' : World} {q g : Nat} {x y : Int} {b : Bool} (h : At3 T W q x y b) (hg : W.grownBy W' (some g)) (hne : q ≠ g) : At3 T W' q x y b :=
  (hg.block q h.lt (fun e => hne (by injection e))).trans h
theorem at3_flip {T : TypeId} {W : World} {q : Nat} {x y : Int} {b : Bool} (h : At3 T W q x y b) (c : Bool) : At3 T (W.setCell ⟨q, 2, none⟩ (.bool c)) q x y c := by
  have h' := h
  unfold At3 at h' ⊢
  simp [World.setCell, Array.getElem?_modify, h']
/-- the state: the cursor, the region's box, the region's cells, the dominoes laid so far. -/
structure Gs (w : World) (B g : Nat) (A : Option Addr) (len cap : Nat) (va : Value) (bC offC : Nat) (C : List (Int × Int)) (M : List Dm) (v : Value) (W : World) : Prop where
  cur : Cur W B g A len cap
  gw : g < w.heap.size
  gr : w.grownBy W (some g)
  box : Rg W w.heap.size va
  cs : RdC W bC offC C
  own : W.ownsRow (w.heap.size + 1) 34 3 v M.length (rowM M)
  ne : 0 < C.length → v.ownBlock ≠ some bC
  cge : 0 < C.length → w.heap.size + 1 ≤ bC
section
variable {w : World} {B g : Nat} {A : Option Addr} {len cap : Nat} {va : Value} {bC offC : Nat} {C : List (Int × Int)} {M : List Dm} {v : Value} {W W' : World}
theorem Gs.onB {B' : Nat} (h : Gs w B g A len cap va bC offC C M v W) (hb : Below B' W W') (h1 : w.heap.size < B') (h2 : ∀ k, v.ownBlock = some k → k < B') (h3 : 0 < C.length → bC < B') : Gs w B g A len cap va bC offC C M v W' := by
  obtain ⟨hc, gw, gr, box, cs, own, ne, cge⟩ := h
  refine ⟨?_, gw, ⟨hb.os.trans gr.os, hb.tape.trans gr.tape, hb.output.trans gr.output, Nat.le_trans gr.size hb.size, fun i hi hne => (hb.block i (by omega)).trans (gr.block i hi hne)⟩, (hb.block _ h1).trans box, cs.same hb.size fun h0 => hb.block bC (h3 h0), ⟨own.1, ?_⟩, ne, cge⟩
  · obtain ⟨hBg, hlen, hrd, i, x, hi, hbl⟩ := hc
    exact ⟨hBg, hlen, hrd.below (hb.mono (by omega)), i, x, hi, (hb.block g (by omega)).trans hbl⟩
  · rcases own.2 with hn | ⟨k, cap', cur, rfl, hk, hkk, rest⟩
    · exact .inl hn
    · exact .inr ⟨k, cap', cur, rfl, hk, (hb.block k (h2 k rfl)).trans hkk, rest⟩
theorem Gs.on (h : Gs w B g A len cap va bC offC C M v W) (hb : Below W.heap.size W W') : Gs w B g A len cap va bC offC C M v W' :=
  h.onB hb h.box.lt (fun k hk => (h.own.lt k hk).2) h.cs.1
theorem Gs.alloc (h : Gs w B g A len cap va bC offC C M v W) (o : Obj) : Gs w B g A len cap va bC offC C M v (W.alloc o) := h.on (below_alloc1 W o)
theorem Gs.drew (h : Gs w B g A len cap va bC offC C M v W) : Gs w B g A len cap va bC offC C M v W.drew := ⟨h.cur, h.gw, ⟨h.gr.os, h.gr.tape, h.gr.output, h.gr.size, h.gr.block⟩, h.box, h.cs, h.own, h.ne, h.cge⟩
theorem Gs.draw (h : Gs w B g A len cap va bC offC C M v W) (hc : Cur W' B g A len cap) (hg : W.grownBy W' (some g)) : Gs w B g A len cap va bC offC C M v W' := by
  obtain ⟨_, gw, gr, box, cs, own, ne, cge⟩ := h
  refine ⟨hc, gw, grown_trans gr hg, (hg.block _ box.lt (by intro e; injection e with e; omega)).trans box, cs.grown hg fun h0 => by have := cge h0; omega, own.kept hg (.inr fun e => ?_), ne, cge⟩
  have := (own.lt g e).1; omega
theorem Gs.app {go co m' c' g' : Nat} {M' : List Dm} (h : Gs w B g A len cap va bC offC C M (.slice (some ⟨go, 0, none⟩) M.length co) W) (hown : W'.ownsRow (w.heap.size + 1) 34 3 (.slice (some ⟨g', 0, none⟩) m' c') m' (rowM M'))
    (hm : m' = M'.length) (hg : W.grownBy W' (some go)) (hat : g' = go ∨ g' = W.heap.size) : Gs w B g A len cap va bC offC C M' (.slice (some ⟨g', 0, none⟩) M'.length c') W' := by
  have hgo := (h.own.lt go rfl).1
  obtain ⟨hc, gw, gr, box, cs, own, ne, cge⟩ := h
  subst hm
  have hgo2 := own.lt go rfl
  refine ⟨hc.later hg (by intro e; injection e with e; omega) (fun k hk => by injection hk with hk; have := hc.1; omega), gw, ⟨hg.os.trans gr.os, hg.tape.trans gr.tape, hg.output.trans gr.output, Nat.le_trans gr.size hg.size, fun i hi hne => (hg.block i (by have := gr.size; omega) (by intro e; injection e with e; omega)).trans (gr.block i hi hne)⟩,
    (hg.block _ box.lt (by intro e; injection e with e; omega)).trans box, cs.grown hg fun h0 e => ne h0 (by show some go = some bC; rw [e]), hown, fun h0 e => ?_, cge⟩
  have e2 : g' = bC := by { injection e }
  rcases hat with q | q
  · exact ne h0 (by show some go = some bC; rw [← q, e2])
  · have := cs.1 h0; omega
theorem Gs.row {A1 : Option Addr} {xs : List Int} (h : Gs w B g A len cap va bC offC C M v W) (hr : RowB w w.heap.size A1 xs) (hne : ∀ b off, A1 = some ⟨b, off, none⟩ → b ≠ g) : RowB W W.heap.size A1 xs := by
  obtain ⟨b, off, h1, h2⟩ := hr
  refine ⟨b, off, fun h0 => ⟨(h1 h0).1, Nat.lt_of_lt_of_le (h1 h0).2 h.gr.size⟩, fun j x hx => ?_⟩
  have h0 : 0 < xs.length := by have := (List.getElem?_eq_some_iff.1 hx).1; omega
  obtain ⟨e1, e2⟩ := h1 h0
  rw [World.cell?_of_block (a := ⟨b, off + j, none⟩) (h.gr.block b e2 (by intro e; injection e with e; exact hne b off e1 e))]
  exact h2 j x hx
end

/-- a region's box. -/
def R1g (w : World) (v : Value) (W : World) : Prop := Below w.heap.size w W ∧ Rg W w.heap.size v
theorem r1_startG (w : World) (v : Value) : R1g w v (w.alloc (.cells #[v] 26)) := ⟨below_alloc1 w _, Rg.new w v⟩
theorem R1g.on {w W W' : World} {v : Value} (h : R1g w v W) (hb : Below W.heap.size W W') : R1g w v W' := ⟨h.1.trans (hb.mono h.1.size), h.2.on hb⟩

set_option maxRecDepth 100000 in
set_option maxHeartbeats 40000000 in
theorem greedy (w : World) (B g : Nat) (A : Option Addr) (len cap : Nat) (h0 : Cur w B g A len cap) (A1 : Option Addr) (n c1 : Nat) (xs : List Int) (hx : xs.length = n) (hn : (n : Int) ≤ 9223372036854775807) (ho : okR xs) (hr : RowB w w.heap.size A1 xs) (hne : ∀ b off, A1 = some ⟨b, off, none⟩ → b ≠ g) :
    Calls Tryd.prog 21 #[.pointer (some ⟨g, 0, none⟩), .agg #[.slice A1 n c1]] w fun e w' =>
      ∃ (M : List Dm) (go co : Nat), Hid (∃ k, GP xs k M) ∧ e = .returned (.slice (some ⟨go, 0, none⟩) M.length co) ∧ w'.ownsRow (w.heap.size + 1) 34 3 (.slice (some ⟨go, 0, none⟩) M.length co) M.length (rowM M) ∧ w.grownBy w' (some g) := by
  obtain ⟨i0, hi, hz0, hz1, hz2⟩ := info_parts domInfo
  have HS := Lib.hid (r1_startG w (.slice A1 n c1))
  have hgw := h0.lt.2
  have HCu := Lib.hid h0
  have HM := Lib.hid (fun (W : World) => World.ownsRow_made (e := 34) (size := 3) W #[] 0 (Nat.le_refl _) (by unfold maxLen; omega) rfl)
  have HC := Lib.hid (fun W (hb : Below w.heap.size w W) => sCellsOf W A1 n c1 w.heap.size xs hx hn (hr.below hb (Nat.le_refl _)) hb.size)
  have HH := Lib.hid (fun W (hr : RowB W W.heap.size A1 xs) u v => sHasCell W A1 n c1 W.heap.size xs hx hn hr (Nat.le_refl _) u v)
  have HRow := Lib.hid (fun (bC offC : Nat) (C : List (Int × Int)) (M : List Dm) (v : Value) (W : World) (h : Gs w B g A len cap (.slice A1 n c1) bC offC C M v W) => h.row hr hne)
  have hCl := cellsR_length xs
  obtain ⟨C, hC⟩ : ∃ C, C = cellsR xs := ⟨_, rfl⟩
  have HStep := Lib.hid (fun k (hk : k < C.length) M (b : Bool) (h : GP xs k M) (hd : okM (C[k].1, C[k].2, b) = true) (h1 : anyM M C[k].1 C[k].2 = false) (h2 : hasB xs (sx C[k].1 b) (sy C[k].2 b) = true) (h3 : anyM M (sx C[k].1 b) (sy C[k].2 b) = false) => (show GP xs (k + 1) (M ++ [(C[k].1, C[k].2, b)]) from by subst hC; exact h.step hk hd h1 h2 h3))
  rw [← hC] at HC hCl
  clear h0 hx hn hr hne hC
  go_enter Tryd.func21, Tryd.ntmps21
  go_wp2_with fail
  have T0 := HS.out
  have hcur0 := HCu.out.alloc (.cells #[.slice A1 n c1] 26)
  have hown0 := HM.out (w.alloc (.cells #[.slice A1 n c1] 26))
  have hz0w : (w.alloc (.cells #[.slice A1 n c1] 26)).heap.size = w.heap.size + 1 := by simp
  generalize w.alloc (.cells #[.slice A1 n c1] 26) = W0 at T0 hcur0 hown0 hz0w ⊢
  rw [hz0w] at hown0
  have hb01 := below_alloc1 W0 (.cells #[] 34)
  have hz1w : (W0.alloc (.cells #[] 34)).heap.size = w.heap.size + 2 := by simp [hz0w]
  have T1 := T0.on hb01
  have hcur1 := hcur0.alloc (.cells #[] 34)
  generalize W0.alloc (.cells #[] 34) = W1 at T1 hcur1 hown0 hz1w ⊢
  refine (HC.out _ T1.1).mono ?_
  rintro e w1 ⟨A2, cap1, rfl, hown1, hb1⟩
  obtain ⟨bC, offC, hA2, hR2⟩ := rowC_own hown1
  have hcb : 0 < C.length → w.heap.size + 2 ≤ bC := fun h0 => by
    obtain ⟨k, c, hv, hg, _⟩ := hown1.form h0
    have e := (hA2 h0).1
    rw [e] at hv
    injection hv with hv
    injection hv with hv
    injection hv with hv
    omega
  have T2 := T1.on hb1
  have G0 : Gs w B g A len cap (.slice A1 n c1) bC offC C [] (.slice (some ⟨w.heap.size + 1, 0, none⟩) 0 0) w1 := by
    refine ⟨hcur1.later (Draw.grown_below hb1 none) (by intro e; cases e) (fun k hk => by cases hk), hgw, Draw.grown_below T2.1 _, T2.2, ⟨fun h0 => (hA2 h0).2, hR2⟩, ?_, fun h0 e => ?_, fun h0 => by have := hcb h0; omega⟩
    · exact Reg.own_below hown0 hb1 (Nat.le_refl _)
    · have hcc := hcb h0
      have e2 : w.heap.size + 1 = bC := by { injection e }
      omega
  have HA2 := Lib.hid (fun h0 => (hA2 h0).1)
  clear HC HS HCu HM T0 T1 T2 hcur0 hcur1 hown0 hown1 hz0w hz1w hb01 hb1 hA2 hR2 hcb
  go_wp2_with fail
  go_loopw [5, 7] (fun v i wr => ∃ (k : Nat) (M : List Dm) (go co : Nat), k ≤ C.length ∧ i = .int .i64 k ∧ v = .slice (some ⟨go, 0, none⟩) M.length co ∧ Gs w B g A len cap (.slice A1 n c1) bC offC C M (.slice (some ⟨go, 0, none⟩) M.length co) wr ∧ M.length ≤ k ∧ Hid (GP xs k M)) (fun _ i _ => C.length - (intOf i).toNat)
  case atStart => exact ⟨0, [], w.heap.size + 1, 0, Nat.zero_le _, rfl, rfl, G0, Nat.le_refl _, Lib.hid (GP.zero _)⟩
  case round =>
    clear G0
    obtain ⟨k, M, go, co, hk, rfl, rfl, T0, hMk, hG⟩ := hrel
    by_cases hlt : k < C.length
    · obtain rfl := HA2.out (by omega)
      obtain ⟨c0, c1'⟩ := T0.cs.2 k C[k] (List.getElem?_eq_getElem hlt)
      have HSt := Lib.hid (fun b hd h1 h2 h3 => HStep.out k hlt M b hG.out hd h1 h2 h3)
      have HCk := Lib.hid (fun (W : World) (hcs : RdC W bC offC C) => hcs.2 k C[k] (List.getElem?_eq_getElem hlt))
      generalize C[k] = c at c0 c1' HSt HCk
      obtain ⟨x, y⟩ := c
      simp only at c0 c1' HSt HCk
      have HD := Lib.hid (fun W (h : RowM W W.heap.size (some ⟨go, 0, none⟩) M) u v => sDominoAt W (some ⟨go, 0, none⟩) M.length co W.heap.size M rfl (by omega) h (Nat.le_refl _) u v)
      have HDx := Lib.hid (fun W h => HD.out W h x y)
      have HQ := Lib.hid (atI_neg (L := M) (x := x) (y := y))
      generalize atI M x y = q at HDx HQ
      go_wp2_with fail
      refine (HDx.out _ (rowM_own T0.own)).mono ?_
      rintro e w2 ⟨rfl, hb2⟩
      have T1 := T0.on hb2
      clear T0 hb2 HDx c0 c1'
      by_cases hq : 0 ≤ q
      · have hq2 : ¬ q < 0 := by omega
        go_wp2
        go_roundw
        case rel => exact ⟨k + 1, M, go, co, by omega, by go_num, rfl, T1, by omega, Lib.hid hG.out.skip⟩
        case measure => (simp [intOf] <;> omega)
      · have HAn := Lib.hid (show anyM M x y = false by have := HQ.out; rw [decide_eq_true (by omega)] at this; simpa using this.symm)
        have hq2 : q < 0 := by omega
        clear HQ
        go_upto_region 7 with fail
        refine' wp_of_rest2 _ (fun W p b => Gs w B g A len cap (.slice A1 n c1) bC offC C M (.slice (some ⟨go, 0, none⟩) M.length co) W ∧ At3 34 W p x y b ∧ (w.heap.size < p ∧ go < p ∧ bC < p)) ?_ ?_
        rotate_left
        · intro Q R
          have R := Lib.hid R
          have T1 := T1.drew
          obtain ⟨c0, c1'⟩ := HCk.out _ T1.cs
          refine wp_region_noPanic ?_
          refine wp_region_held_drew (S := (fun w' => w'.cell? ⟨bC, offC + k * 2, none⟩ = some (.int .i64 x) ∧ w'.cell? ⟨bC, offC + k * 2 + 1, none⟩ = some (.int .i64 y))) (by kernel_rfl) (⟨c0, c1'⟩) (fun hHeld => ?_)
          generalize World.drew _ = WR at T1 hHeld c0 c1' ⊢
          refine wpAnyH_take (i := 0) (v := ?_) rfl (by kernel_rfl) (by kernel_rfl) (by kernel_rfl) (fun _ _ _ h => h) (Or.inl ⟨(by as_aux_lemma => kernel_rfl), ?_⟩) (by assumption) ?_
          rotate_left
          · (intro w' hS; (try dsimp only at hS); go_simp; try with_reducible rfl)
          try simp only [Act.put, List.getElem_toArray, List.getElem_cons_succ, List.getElem_cons_zero, List.setIfInBounds_toArray, List.set_cons_zero, List.set_cons_succ]
          refine wpAnyH_take (i := 1) (v := ?_) rfl (by kernel_rfl) (by kernel_rfl) (by kernel_rfl) (fun _ _ _ h => h) (Or.inl ⟨(by as_aux_lemma => kernel_rfl), ?_⟩) (by assumption) ?_
          rotate_left
          · (intro w' hS; (try dsimp only at hS); go_simp; try with_reducible rfl)
          try simp only [Act.put, List.getElem_toArray, List.getElem_cons_succ, List.getElem_cons_zero, List.setIfInBounds_toArray, List.set_cons_zero, List.set_cons_succ]
          refine wpAnyH_take (i := 2) (v := ?_) rfl (by kernel_rfl) (by kernel_rfl) (by kernel_rfl) (fun _ _ _ h => h) (Or.inl ⟨(by as_aux_lemma => kernel_rfl), ?_⟩) (by assumption) ?_
          rotate_left
          · (intro w' hS; (try dsimp only at hS); go_simp; try with_reducible rfl)
          try simp only [Act.put, List.getElem_toArray, List.getElem_cons_succ, List.getElem_cons_zero, List.setIfInBounds_toArray, List.set_cons_zero, List.set_cons_succ]
          refine wpAnyH_take (i := 3) (v := ?_) rfl (by kernel_rfl) (by kernel_rfl) (by kernel_rfl) (fun _ _ _ h => h) (Or.inl ⟨(by as_aux_lemma => kernel_rfl), ?_⟩) (by assumption) ?_
          rotate_left
          · (intro w' hS; (try dsimp only at hS); go_simp; try with_reducible rfl)
          try simp only [Act.put, List.getElem_toArray, List.getElem_cons_succ, List.getElem_cons_zero, List.setIfInBounds_toArray, List.set_cons_zero, List.set_cons_succ]
          refine wpAnyH_take (i := 4) (v := ?_) rfl (by kernel_rfl) (by kernel_rfl) (by kernel_rfl) (fun _ _ _ h => h) (Or.inl ⟨(by as_aux_lemma => kernel_rfl), ?_⟩) (by assumption) ?_
          rotate_left
          · (intro w' hS; (try dsimp only at hS); go_simp; try with_reducible rfl)
          try simp only [Act.put, List.getElem_toArray, List.getElem_cons_succ, List.getElem_cons_zero, List.setIfInBounds_toArray, List.set_cons_zero, List.set_cons_succ]
          refine wpAnyH_take (i := 5) (v := ?_) rfl (by kernel_rfl) (by kernel_rfl) (by kernel_rfl) (fun _ _ _ h => h) (Or.inl ⟨(by as_aux_lemma => kernel_rfl), ?_⟩) (by assumption) ?_
          rotate_left
          · (intro w' hS; (try dsimp only at hS); go_simp; try with_reducible rfl)
          try simp only [Act.put, List.getElem_toArray, List.getElem_cons_succ, List.getElem_cons_zero, List.setIfInBounds_toArray, List.set_cons_zero, List.set_cons_succ]
          refine wpAnyH_take (i := 6) (v := ?_) rfl (by kernel_rfl) (by kernel_rfl) (by kernel_rfl) (fun _ _ _ h => h) (Or.inl ⟨(by as_aux_lemma => kernel_rfl), ?_⟩) (by assumption) ?_
          rotate_left
          · (intro w' hS; (try dsimp only at hS); go_simp; try with_reducible rfl)
          try simp only [Act.put, List.getElem_toArray, List.getElem_cons_succ, List.getElem_cons_zero, List.setIfInBounds_toArray, List.set_cons_zero, List.set_cons_succ]
          refine wpAnyH_take (i := 7) (v := ?_) rfl (by kernel_rfl) (by kernel_rfl) (by kernel_rfl) (fun _ _ _ h => h) (Or.inl ⟨(by as_aux_lemma => kernel_rfl), ?_⟩) (by assumption) ?_
          rotate_left
          · (intro w' hS; (try dsimp only at hS); go_simp; try with_reducible rfl)
          try simp only [Act.put, List.getElem_toArray, List.getElem_cons_succ, List.getElem_cons_zero, List.setIfInBounds_toArray, List.set_cons_zero, List.set_cons_succ]
          refine wpAnyH_take (i := 8) (v := ?_) rfl (by kernel_rfl) (by kernel_rfl) (by kernel_rfl) (fun _ _ _ h => h) (Or.inl ⟨(by as_aux_lemma => kernel_rfl), ?_⟩) (by assumption) ?_
          rotate_left
          · (intro w' hS; (try dsimp only at hS); go_simp; try with_reducible rfl)
          try simp only [Act.put, List.getElem_toArray, List.getElem_cons_succ, List.getElem_cons_zero, List.setIfInBounds_toArray, List.set_cons_zero, List.set_cons_succ]
          refine wpAnyH_take (i := 9) (v := ?_) rfl (by kernel_rfl) (by kernel_rfl) (by kernel_rfl) (fun _ _ _ h => h) (Or.inl ⟨(by as_aux_lemma => kernel_rfl), ?_⟩) (by assumption) ?_
          rotate_left
          · (intro w' hS; (try dsimp only at hS); go_simp; try with_reducible rfl)
          try simp only [Act.put, List.getElem_toArray, List.getElem_cons_succ, List.getElem_cons_zero, List.setIfInBounds_toArray, List.set_cons_zero, List.set_cons_succ]
          refine wpAnyH_take (i := 10) (v := ?_) rfl (by kernel_rfl) (by kernel_rfl) (by kernel_rfl) (fun _ _ _ h => h) (Or.inl ⟨(by as_aux_lemma => kernel_rfl), ?_⟩) (by assumption) ?_
          rotate_left
          · (intro w' hS; (try dsimp only at hS); go_simp; try with_reducible rfl)
          try simp only [Act.put, List.getElem_toArray, List.getElem_cons_succ, List.getElem_cons_zero, List.setIfInBounds_toArray, List.set_cons_zero, List.set_cons_succ]
          clear hHeld c0 c1'
          refine wpAnyH_ready (rs := [11, 13]) (by kernel_rfl) (by simp) ?_
          refine AllReadyH.cons rfl (fun K hK => ?_) (AllReadyH.cons rfl (fun K hK => ?_) AllReadyH.nil)
          · go_simp
            refine (once _ B g A len cap 2 T1.cur).mono ?_
            rintro e wx ⟨b, rfl, hc, hg⟩
            have T2 := T1.draw hc hg
            obtain ⟨c0, c1'⟩ := HCk.out _ T2.cs
            clear T1 hc hg
            go_wp2_with fail
            refine hK.out _ _ (⟨c0, c1'⟩) (fun hHeld => ?_)
            clear hK K
            try simp only [Act.put, List.getElem_toArray, List.getElem_cons_succ, List.getElem_cons_zero, List.setIfInBounds_toArray, List.set_cons_zero, List.set_cons_succ]
            refine wpAnyH_take (i := 12) (v := ?_) rfl (by kernel_rfl) (by kernel_rfl) (by kernel_rfl) (fun _ _ _ h => h) (Or.inl ⟨(by as_aux_lemma => kernel_rfl), ?_⟩) (by assumption) ?_
            rotate_left
            · (intro w' hS; (try dsimp only at hS); go_simp; try with_reducible rfl)
            try simp only [Act.put, List.getElem_toArray, List.getElem_cons_succ, List.getElem_cons_zero, List.setIfInBounds_toArray, List.set_cons_zero, List.set_cons_succ]
            refine wpAnyH_ready (rs := [13]) (by kernel_rfl) (by simp) ?_
            refine AllReadyH.cons rfl (fun K hK => ?_) AllReadyH.nil
            go_simp
            have hz : w.heap.size < wx.heap.size ∧ go < wx.heap.size ∧ bC < wx.heap.size := ⟨T2.box.lt, (T2.own.lt go rfl).2, T2.cs.1 (by omega)⟩
            have T3 := T2.alloc (.cells #[.int .i64 0, .int .i64 0, .bool false] 34)
            have Z := At3.new 34 wx 0 0 false
            obtain ⟨c0, c1'⟩ := HCk.out _ T3.cs
            refine hK.out _ _ (⟨c0, c1'⟩) (fun hHeld => ?_)
            clear hK K T2
            try simp only [Act.put, List.getElem_toArray, List.getElem_cons_succ, List.getElem_cons_zero, List.setIfInBounds_toArray, List.set_cons_zero, List.set_cons_succ]
            generalize World.alloc _ (.cells #[.int .i64 0, .int .i64 0, .bool false] 34) = WA at T3 Z hHeld c0 c1' ⊢
            generalize wx.heap.size = pz at Z hz ⊢
            clear c0 c1'
            have d0 := Z.c0
            have d1 := Z.c1
            have d2 := Z.c2
            have d3 := Z.f0
            have d4 := Z.f1
            have d5 := Z.f2
            have T4 := T3.onB (B' := pz) ((((Below.refl pz _).setCell (p := ⟨pz, 0, none⟩) (Nat.le_refl _) (.int .i64 x)).setCell (p := ⟨pz, 1, none⟩) (Nat.le_refl _) (.int .i64 y)).setCell (p := ⟨pz, 2, none⟩) (Nat.le_refl _) (.bool b)) hz.1 (fun j hj => by have hj2 : go = j := by { injection hj }; omega) (fun _ => hz.2.2)
            have Z4 := Z.put (a := x) (c := y) (d := b)
            obtain ⟨c0, c1'⟩ := HCk.out _ T4.cs
            clear hHeld
            refine wpAnyH_ready (rs := [14]) (by kernel_rfl) (by simp) ?_
            refine AllReadyH.cons rfl (fun K hK => ?_) AllReadyH.nil
            go_simp
            refine hK.out _ _ (⟨c0, c1'⟩) (fun hHeld => ?_)
            clear hK K
            try simp only [Act.put, List.getElem_toArray, List.getElem_cons_succ, List.getElem_cons_zero, List.setIfInBounds_toArray, List.set_cons_zero, List.set_cons_succ]
            refine wpAnyH_done (by kernel_rfl) ?_ _
            refine NoPanic.normal ?_
            exact R.out _ pz b ⟨T4, Z4, hz⟩
          · go_simp
            have hz : w.heap.size < WR.heap.size ∧ go < WR.heap.size ∧ bC < WR.heap.size := ⟨T1.box.lt, (T1.own.lt go rfl).2, T1.cs.1 (by omega)⟩
            have T2 := T1.alloc (.cells #[.int .i64 0, .int .i64 0, .bool false] 34)
            have Z := At3.new 34 WR 0 0 false
            obtain ⟨c0, c1'⟩ := HCk.out _ T2.cs
            refine hK.out _ _ (⟨c0, c1'⟩) (fun hHeld => ?_)
            clear hK K T1 c0 c1'
            try simp only [Act.put, List.getElem_toArray, List.getElem_cons_succ, List.getElem_cons_zero, List.setIfInBounds_toArray, List.set_cons_zero, List.set_cons_succ]
            generalize World.alloc _ (.cells #[.int .i64 0, .int .i64 0, .bool false] 34) = WB at T2 Z hHeld ⊢
            generalize WR.heap.size = pz at Z hz ⊢
            clear hHeld
            refine wpAnyH_ready (rs := [11]) (by kernel_rfl) (by simp) ?_
            refine AllReadyH.cons rfl (fun K hK => ?_) AllReadyH.nil
            go_simp
            refine (once _ B g A len cap 2 T2.cur).mono ?_
            rintro e wx ⟨b, rfl, hc, hg⟩
            have T3 := T2.draw hc hg
            have Z := at3_grown Z hg (by have := T2.gw; omega)
            obtain ⟨c0, c1'⟩ := HCk.out _ T3.cs
            clear T2 hc hg
            go_wp2_with fail
            refine hK.out _ _ (⟨c0, c1'⟩) (fun hHeld => ?_)
            clear hK K
            try simp only [Act.put, List.getElem_toArray, List.getElem_cons_succ, List.getElem_cons_zero, List.setIfInBounds_toArray, List.set_cons_zero, List.set_cons_succ]
            refine wpAnyH_take (i := 12) (v := ?_) rfl (by kernel_rfl) (by kernel_rfl) (by kernel_rfl) (fun _ _ _ h => h) (Or.inl ⟨(by as_aux_lemma => kernel_rfl), ?_⟩) (by assumption) ?_
            rotate_left
            · (intro w' hS; (try dsimp only at hS); go_simp; try with_reducible rfl)
            try simp only [Act.put, List.getElem_toArray, List.getElem_cons_succ, List.getElem_cons_zero, List.setIfInBounds_toArray, List.set_cons_zero, List.set_cons_succ]
            clear c0 c1'
            have d0 := Z.c0
            have d1 := Z.c1
            have d2 := Z.c2
            have d3 := Z.f0
            have d4 := Z.f1
            have d5 := Z.f2
            have T4 := T3.onB (B' := pz) ((((Below.refl pz _).setCell (p := ⟨pz, 0, none⟩) (Nat.le_refl _) (.int .i64 x)).setCell (p := ⟨pz, 1, none⟩) (Nat.le_refl _) (.int .i64 y)).setCell (p := ⟨pz, 2, none⟩) (Nat.le_refl _) (.bool b)) hz.1 (fun j hj => by have hj2 : go = j := by { injection hj }; omega) (fun _ => hz.2.2)
            have Z4 := Z.put (a := x) (c := y) (d := b)
            obtain ⟨c0, c1'⟩ := HCk.out _ T4.cs
            clear hHeld
            refine wpAnyH_ready (rs := [14]) (by kernel_rfl) (by simp) ?_
            refine AllReadyH.cons rfl (fun K hK => ?_) AllReadyH.nil
            go_simp
            refine hK.out _ _ (⟨c0, c1'⟩) (fun hHeld => ?_)
            clear hK K
            try simp only [Act.put, List.getElem_toArray, List.getElem_cons_succ, List.getElem_cons_zero, List.setIfInBounds_toArray, List.set_cons_zero, List.set_cons_succ]
            refine wpAnyH_done (by kernel_rfl) ?_ _
            refine NoPanic.normal ?_
            exact R.out _ pz b ⟨T4, Z4, hz⟩
        · intro W4 p b0 ⟨T4, Z4, hp⟩
          go_wp2_with fail
          go_loopw [5, 9] (fun v5 i wr => ∃ (t : Nat) (b : Bool), t ≤ 2 ∧ i = .int .i64 t ∧ v5 = .slice (some ⟨go, 0, none⟩) M.length co ∧ Gs w B g A len cap (.slice A1 n c1) bC offC C M (.slice (some ⟨go, 0, none⟩) M.length co) wr ∧ At3 34 wr p x y b) (fun _ i _ => 2 - (intOf i).toNat)
          case atStart => exact ⟨0, b0, by omega, rfl, rfl, T4, Z4⟩
          case round =>
            clear T4 Z4 T1
            obtain ⟨t, b, ht, rfl, rfl, T5, Z5⟩ := hrel
            by_cases ht2 : t < 2
            · have HK := Lib.hid (fun W => sSecond x y b W)
              have HO := Lib.hid (fun W => sDominoOk x y b W)
              have HSb := Lib.hid (fun hd h1 h2 h3 => HSt.out b hd h1 h2 h3)
              have HOk := Lib.hid (show okM (x, y, b) = domB x y b from rfl)
              generalize domB x y b = pp at HO HOk
              generalize sx x b = u at HK HSb
              generalize sy y b = v at HK HSb
              have HDu := Lib.hid (fun W h => HD.out W h u v)
              have HQu := Lib.hid (atI_neg (L := M) (x := u) (y := v))
              generalize atI M u v = qu at HDu HQu
              have HHu := Lib.hid (fun W h => HH.out W h u v)
              have HHB := Lib.hid (show hasB xs u v = hasB xs u v from rfl)
              obtain ⟨ss, hss⟩ : ∃ ss, hasB xs u v = ss := ⟨_, rfl⟩
              rw [hss] at HHu
              have HSS := Lib.hid hss
              clear hss HHB
              have d0 := Z5.c0
              have d1 := Z5.c1
              have d2 := Z5.c2
              go_wp2_with fail
              refine (HK.out _).mono ?_
              rintro e w5 ⟨rfl, hb5⟩
              have T6 := T5.on hb5
              have Z6 := Z5.on hb5
              clear T5 Z5 d0 d1 d2 hb5 HK
              go_upto_region 12 with fail
              have K7 := At2.new w5 u v
              have T7 := T6.alloc (.cells #[.int .i64 u, .int .i64 v] 36)
              have Z7 := Z6.on (below_alloc1 w5 (.cells #[.int .i64 u, .int .i64 v] 36))
              clear T6 Z6
              generalize w5.alloc (.cells #[.int .i64 u, .int .i64 v] 36) = W7 at T7 Z7 K7 ⊢
              generalize w5.heap.size = p7 at K7 ⊢
              have d0 := Z7.c0
              have d1 := Z7.c1
              have d2 := Z7.c2
              go_wp2_with fail
              refine (HO.out _).mono ?_
              rintro e w8 ⟨rfl, hb8⟩
              have T8 := T7.on hb8
              have Z8 := Z7.on hb8
              have K8 := K7.on hb8
              clear T7 Z7 K7 d0 d1 d2 hb8 HO
              cases pp with
              | false =>
                have d2 := Z8.c2
                have d3 := Z8.f2
                have TF := Lib.hid (T8.onB (B' := p) ((Below.refl p _).setCell (p := ⟨p, 2, none⟩) (Nat.le_refl _) (.bool (!b))) hp.1 (fun j hj => by have hj2 : go = j := by { injection hj }; omega) (fun _ => hp.2.2))
                have ZF := Lib.hid (at3_flip Z8 (!b))
                clear T8 Z8
                go_wp2
                go_roundw
                case rel => exact ⟨t + 1, !b, by omega, by go_num, rfl, TF.out, ZF.out⟩
                case measure => (simp [intOf] <;> omega)
              | true =>
                have e0 := K8.c0
                have e1 := K8.c1
                have e2 := T8.box.c0
                go_wp2_with fail
                refine (HHu.out _ (HRow.out _ _ _ _ _ _ T8)).mono ?_
                rintro e w9 ⟨rfl, hb9⟩
                have T9 := T8.on hb9
                have Z9 := Z8.on hb9
                have K9 := K8.on hb9
                clear T8 Z8 K8 e0 e1 e2 hb9 HHu
                cases ss with
                | false =>
                  have d2 := Z9.c2
                  have d3 := Z9.f2
                  have TF := Lib.hid (T9.onB (B' := p) ((Below.refl p _).setCell (p := ⟨p, 2, none⟩) (Nat.le_refl _) (.bool (!b))) hp.1 (fun j hj => by have hj2 : go = j := by { injection hj }; omega) (fun _ => hp.2.2))
                  have ZF := Lib.hid (at3_flip Z9 (!b))
                  clear T9 Z9
                  go_wp2
                  go_roundw
                  case rel => exact ⟨t + 1, !b, by omega, by go_num, rfl, TF.out, ZF.out⟩
                  case measure => (simp [intOf] <;> omega)
                | true =>
                  have e0 := K9.c0
                  have e1 := K9.c1
                  go_wp2_with fail
                  refine (HDu.out _ (rowM_own T9.own)).mono ?_
                  rintro e wA ⟨rfl, hbA⟩
                  have TA := T9.on hbA
                  have ZA := Z9.on hbA
                  clear T9 Z9 K9 e0 e1 hbA HDu
                  by_cases hqu : qu < 0
                  · have HAu := Lib.hid (show anyM M u v = false by have := HQu.out; rw [decide_eq_true hqu] at this; simpa using this.symm)
                    have HG2 := Lib.hid (HSb.out HOk.out HAn.out HSS.out HAu.out)
                    have d0 := ZA.c0
                    have d1 := ZA.c1
                    have d2 := ZA.c2
                    have hMl : M.length ≤ 64 := by omega
                    have hTz := TA.box.lt
                    go_wp2_with (first
                      | (at_builtin; refine wpList_append_any _ rfl _ _ 27 rfl (w.heap.size + 1) 34 i0 (.agg #[.int .i64 0, .int .i64 0, .bool false]) 3 24 Tryd.underlying27 hi hz0 hz1 hz2 rfl (by decide) go M.length co (rowM M) (by rfl) ((TA.alloc (.cells #[.int .i64 x, .int .i64 y, .bool b] 34)).own) ⟨wA.heap.size, 0, none⟩ 1 1 [.int .i64 x, .int .i64 y, .bool b] (by rfl) rfl (World.news_of_block (cs := #[.int .i64 x, .int .i64 y, .bool b]) (t := 34) (fr := (0, 0)) (heap_alloc_new wA _)) (by simp [Value.oneCell']) (by unfold maxLen; omega) (by omega) (by simp; omega) ?_; intro g' c' wB hownB hgrB hatB hltB))
                    have TB := (TA.alloc (.cells #[.int .i64 x, .int .i64 y, .bool b] 34)).app (M' := M ++ [(x, y, b)]) (by rw [rowM_snoc]; exact hownB) (by simp) hgrB hatB
                    have HLn : (M ++ [(x, y, b)]).length = M.length + 1 := by simp
                    rw [HLn] at TB
                    have HTB := Lib.hid TB
                    clear hownB hgrB hatB hltB TA TB ZA d0 d1 d2
                    go_wp2
                    go_roundw
                    case rel => exact ⟨k + 1, M ++ [(x, y, b)], g', c', by omega, by go_num, by rw [HLn], by rw [HLn]; exact HTB.out, by omega, HG2⟩
                    case measure => (simp [intOf] <;> omega)
                  · have hqu2 : 0 ≤ qu := by omega
                    have d2 := ZA.c2
                    have d3 := ZA.f2
                    have TF := Lib.hid (TA.onB (B' := p) ((Below.refl p _).setCell (p := ⟨p, 2, none⟩) (Nat.le_refl _) (.bool (!b))) hp.1 (fun j hj => by have hj2 : go = j := by { injection hj }; omega) (fun _ => hp.2.2))
                    have ZF := Lib.hid (at3_flip ZA (!b))
                    clear TA ZA
                    go_wp2
                    go_roundw
                    case rel => exact ⟨t + 1, !b, by omega, by go_num, rfl, TF.out, ZF.out⟩
                    case measure => (simp [intOf] <;> omega)
            · obtain rfl : t = 2 := by omega
              clear Z5
              go_wp2
              go_roundw
              case rel => exact ⟨k + 1, M, go, co, by omega, by go_num, rfl, T5, by omega, Lib.hid hG.out.skip⟩
              case measure => (simp [intOf] <;> omega)
    · obtain rfl : k = C.length := by omega
      go_wp2
      go_ret
      exact ⟨M, go, co, Lib.hid ⟨_, hG.out⟩, rfl, T0.own, T0.gr⟩
end Go.Proofs.YtpeolcgogidipaaDoor.Grd
