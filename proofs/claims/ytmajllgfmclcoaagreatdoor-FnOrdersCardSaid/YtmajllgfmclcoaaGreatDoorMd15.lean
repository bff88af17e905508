/- PieP, PieS in one text. -/
import Derived.Test.YtmajllgfmclcoaaGreatDoorMd14
import Derived.Test.YtmajllgfmclcoaaGreatDoorMd00
set_option linter.unusedVariables false
set_option linter.unusedSimpArgs false
namespace Go.Proofs.YtmajllgfmclcoaaGreatDoor.Flo
open Go.RowKit Base Euler Bal Go.Proofs.YtmajllgfmclcoaaGreatDoor.Cell Reg Cels Go.Joins
def rowF (n : Nat) (f : Nat → Value) : List Value := (List.range n).map f
theorem rowF_length (n : Nat) (f : Nat → Value) : (rowF n f).length = n := by unfold rowF; simp
theorem rowF_at {n : Nat} (f : Nat → Value) {j : Nat} (h : j < n) : (rowF n f)[j]? = some (f j) := by unfold rowF; simp [List.getElem?_range h]
theorem rowF_same {n : Nat} {f f' : Nat → Value} (h : ∀ i, i < n → f i = f' i) : rowF n f = rowF n f' := by
 unfold rowF
 exact List.map_congr_left (fun i hi => h i (List.mem_range.1 hi))
theorem rowF_set {n : Nat} (f : Nat → Value) {j : Nat} (v : Value) : (rowF n f).set j v = rowF n (fun i => if i = j then v else f i) := by
 apply List.ext_getElem?
 intro i
 rw [List.getElem?_set]
 by_cases hi : i < n
 ·rw [rowF_at (fun i => if i = j then v else f i) hi]
  by_cases e : j = i
  ·subst e; rw [if_pos rfl, rowF_length, if_pos hi, if_pos rfl]
  ·rw [if_neg e, rowF_at f hi, if_neg (fun q => e q.symm)]
 ·rw [List.getElem?_eq_none (l := rowF n (fun i => if i = j then v else f i)) (by rw [rowF_length]; omega)]
  by_cases e : j = i
  ·subst e; rw [if_pos rfl, rowF_length, if_neg hi]
  ·rw [if_neg e, List.getElem?_eq_none (by rw [rowF_length]; omega)]
def seenF (M : Nat → Bool) : List Value := rowF 64 fun i => .bool (M (io i))
theorem seenF_put (M : Nat → Bool) (j : Nat) : (seenF M).set j (.bool true) = seenF (putM M (io j)) := by
 unfold seenF
 rw [rowF_set]
 refine rowF_same (fun i hi => ?_)
 unfold putM
 by_cases e : i = j
 ·subst e; simp
 ·have : (io i == io j) = false := by
   rw [beq_eq_false_iff_ne]; intro q; exact e (by rw [← oi_io i, ← oi_io j, q])
  rw [if_neg e, this, Bool.or_false]
theorem seen_zero : (madeCells (Value.bool false).cells (64 * 1)).toList = seenF (fun _ => false) := by kernel_rfl
theorem boolInfo : (Tryz.prog.info? 4).map (fun i => (i.zero, i.size, i.bytes)) = some (some (.bool false), 1, 1) := by kernel_rfl
theorem own_form {w : World} {base e size n : Nat} {v : Value} {xs : List Value} {g : Nat} (h : w.ownsRow base e size v n xs) (hg : v.ownBlock = some g) : ∃ c, v = .slice (some ⟨g, 0, none⟩) n c := by
 rcases h.2 with ⟨rfl, _⟩ | ⟨g', c, _, rfl, _⟩
 ·cases hg
 ·simp [Value.ownBlock] at hg; subst hg; exact ⟨c, rfl⟩
theorem own_cell {w : World} {base e size n g c : Nat} {xs : List Value} (h : w.ownsRow base e size (.slice (some ⟨g, 0, none⟩) n c) n xs) {j : Nat} {u : Value} (hj : xs[j]? = some u) : w.cell? ⟨g, j, none⟩ = some u := by
 have := h.cells (g := g) rfl j u hj
 rwa [add_plain] at this
def PS (W1 : World) (sb lb : Nat) (M : Nat → Bool) (L : List Nat) (lg lc : Nat) (W : World) : Prop :=
 Below sb W1 W ∧ sb + 1 ≤ lb ∧ lb ≤ W.heap.size ∧ RowIn W sb (sb + 1) 4 1 (.slice (some ⟨sb, 0, none⟩) 64 64) 64 (seenF M) ∧ W.ownsRow lb 79 2 (.slice (some ⟨lg, 0, none⟩) L.length lc) L.length (rowC (L.map plC))
section
variable {W1 W W' : World} {sb lb : Nat} {M : Nat → Bool} {L : List Nat} {lg lc : Nat}
theorem PS.on (h : PS W1 sb lb M L lg lc W) (hb : Below W.heap.size W W') : PS W1 sb lb M L lg lc W' := by
 obtain ⟨a, b, c, d, e⟩ := h
 have hz := hb.size
 exact ⟨a.trans (hb.mono (by omega)), b, by omega, d.on hb, own_below e hb NR⟩
theorem PS.drew (h : PS W1 sb lb M L lg lc W) : PS W1 sb lb M L lg lc W.drew := ⟨h.1.drew, h.2⟩
theorem PS.lg_lt (h : PS W1 sb lb M L lg lc W) : lb ≤ lg ∧ lg < W.heap.size := h.2.2.2.2.lt lg rfl
theorem PS.seen (h : PS W1 sb lb M L lg lc W) {j : Nat} (hj : j < 64) : W.cell? ⟨sb, j, none⟩ = some (.bool (M (io j))) := own_cell h.2.2.2.1.1 (rowF_at _ hj)
theorem PS.frozen (h : PS W1 sb lb M L lg lc W) (j : Nat) : W.frozen? ⟨sb, j, none⟩ = false := h.2.2.2.1.1.frozenAt j
theorem PS.list (h : PS W1 sb lb M L lg lc W) {k u : Nat} (hk : L[k]? = some u) : W.cell? ⟨lg, k * 2, none⟩ = some (.int .i64 (plC u).1) ∧ W.cell? ⟨lg, k * 2 + 1, none⟩ = some (.int .i64 (plC u).2) := by
 obtain ⟨h1, h2⟩ := rowC_at (L.map plC) k (plC u) (by rw [List.getElem?_map, hk]; rfl)
 exact ⟨own_cell h.2.2.2.2 h1, own_cell h.2.2.2.2 h2⟩
theorem PS.mark (h : PS W1 sb lb M L lg lc W) (j : Nat) : PS W1 sb lb (putM M (io j)) L lg lc (W.setCell ⟨sb, j, none⟩ (.bool true)) := by
 obtain ⟨a, b, c, d, e⟩ := h
 obtain ⟨hst, _⟩ := d.1.stored j (.bool true)
 rw [seenF_put] at hst
 exact ⟨a.setCell NR _, b, by simpa [World.setCell] using c, ⟨hst, d.2⟩, ownsRow_setCell_below e (by show sb < lb; omega) _⟩
theorem PS.app {lg' lc' : Nat} {p : Nat} (h : PS W1 sb lb M L lg lc W) (ho : W'.ownsRow lb 79 2 (.slice (some ⟨lg', 0, none⟩) (L.length + 1) lc') (L.length + 1) (rowC (L.map plC) ++ [.int .i64 (plC p).1, .int .i64 (plC p).2])) (hg : W.grownBy W' (some lg)) : PS W1 sb lb M (L ++ [p]) lg' lc' W' := by
 have hl := h.lg_lt
 obtain ⟨a, b, c, d, e⟩ := h
 have hz := hg.size
 refine ⟨a.grown hg (by omega) (fun g hg' => by cases hg'; omega), b, by omega, ⟨d.1.kept hg (.inr (by intro q; simp [Value.ownBlock] at q; omega)), d.2⟩, ?_⟩
 rw [List.length_append, List.map_append, List.map_singleton, rowC_snoc]
 exact ho
end
theorem own_one {e : TypeId} (W : World) (x y : Value) : (W.alloc (.cells #[x, y] e)).ownsRow W.heap.size e 2 (.slice (some ⟨W.heap.size, 0, none⟩) 1 1) 1 [x, y] :=
 ⟨rfl, .inr ⟨W.heap.size, 1, #[x, y], rfl, Nat.le_refl _, heap_alloc_new W _, Nat.le_refl _, by unfold maxLen; omega, rfl, rfl⟩⟩
theorem setCell_size (W : World) (p : Addr) (v : Value) : (W.setCell p v).heap.size = W.heap.size := by simp [World.setCell]
theorem ps_start {W1 W : World} {sb a : Nat} {x y : Int} (hb : Below sb W1 W) (hs : sb < W.heap.size) (hr : RowIn W sb (sb + 1) 4 1 (.slice (some ⟨sb, 0, none⟩) 64 64) 64 (seenF (fun _ => false))) (hx : x = (plC (io a)).1) (hy : y = (plC (io a)).2) :
  PS W1 sb W.heap.size (putM (fun _ => false) (io a)) [io a] W.heap.size 1 ((W.setCell ⟨sb, a, none⟩ (.bool true)).alloc (.cells #[.int .i64 x, .int .i64 y] 79)) := by
 obtain ⟨hst, _⟩ := hr.1.stored a (.bool true)
 rw [seenF_put] at hst
 have hz := setCell_size W ⟨sb, a, none⟩ (.bool true)
 have ho := own_one (e := 79) (W.setCell ⟨sb, a, none⟩ (.bool true)) (.int .i64 x) (.int .i64 y)
 rw [hz, hx, hy] at ho
 subst hx hy
 refine ⟨(hb.setCell NR _).alloc (by rw [hz]; omega) _, by omega, by simp [hz], ⟨hst.alloc _, hr.2⟩, ho⟩
def PN (W1 : World) (sb lb : Nat) (M : Nat → Bool) (L : List Nat) (lg lc nlo nhi : Nat) (nv : Value) (m : Nat) (NL : List Nat) (W : World) : Prop :=
 PS W1 sb lb M L lg lc W ∧ RowIn W nlo nhi 79 2 nv m (rowC (NL.map plC)) ∧ (lg < nlo ∨ nhi ≤ lg) ∧ nhi ≤ W.heap.size ∧ lb ≤ nlo
section
variable {W1 W W' : World} {sb lb : Nat} {M : Nat → Bool} {L : List Nat} {lg lc nlo nhi : Nat} {nv : Value} {m : Nat} {NL : List Nat}
theorem PN.on (h : PN W1 sb lb M L lg lc nlo nhi nv m NL W) (hb : Below W.heap.size W W') : PN W1 sb lb M L lg lc nlo nhi nv m NL W' := by
 obtain ⟨a, b, c, d, e⟩ := h
 have hz := hb.size
 exact ⟨a.on hb, b.on hb, c, by omega, e⟩
theorem PN.drew (h : PN W1 sb lb M L lg lc nlo nhi nv m NL W) : PN W1 sb lb M L lg lc nlo nhi nv m NL W.drew := ⟨h.1.drew, h.2⟩
theorem PN.mark (h : PN W1 sb lb M L lg lc nlo nhi nv m NL W) (j : Nat) : PN W1 sb lb (putM M (io j)) L lg lc nlo nhi nv m NL (W.setCell ⟨sb, j, none⟩ (.bool true)) := by
 obtain ⟨a, b, c, d, e⟩ := h
 have hz := a.2.1
 exact ⟨a.mark j, ⟨ownsRow_setCell_below b.1 (by show sb < nlo; omega) _, b.2⟩, c, by simpa [World.setCell] using d, e⟩
theorem PN.app {lg' lc' p : Nat} (h : PN W1 sb lb M L lg lc nlo nhi nv m NL W) (ho : W'.ownsRow lb 79 2 (.slice (some ⟨lg', 0, none⟩) (L.length + 1) lc') (L.length + 1) (rowC (L.map plC) ++ [.int .i64 (plC p).1, .int .i64 (plC p).2])) (hg : W.grownBy W' (some lg)) (hl : lg' = lg ∨ lg' = W.heap.size) : PN W1 sb lb M (L ++ [p]) lg' lc' nlo nhi nv m NL W' := by
 obtain ⟨a, b, c, d, e⟩ := h
 have hz := hg.size
 refine ⟨a.app ho hg, ⟨b.1.kept hg ?_, b.2⟩, by omega, by omega, e⟩
 cases q : nv.ownBlock with
 | none => exact .inl rfl
 | some g =>
  refine .inr (fun q2 => ?_)
  have h1 := b.2 g q
  have h2 := (b.1.lt g q).1
  cases q2
  omega
theorem PN.cell {nb c : Nat} (h : PN W1 sb lb M L lg lc nlo nhi (.slice (some ⟨nb, 0, none⟩) m c) m NL W) {i u : Nat} (hi : NL[i]? = some u) : W.cell? ⟨nb, i * 2, none⟩ = some (.int .i64 (plC u).1) ∧ W.cell? ⟨nb, i * 2 + 1, none⟩ = some (.int .i64 (plC u).2) := by
 obtain ⟨h1, h2⟩ := rowC_at (NL.map plC) i (plC u) (by rw [List.getElem?_map, hi]; rfl)
 exact ⟨own_cell h.2.1.1 h1, own_cell h.2.1.1 h2⟩
end
theorem index_io {j : Nat} (hj : j < 64) : indexN (plC (io j)).1 (plC (io j)).2 = (j : Int) := by
 rw [plC_io]
 unfold cellI indexN
 rw [if_pos (by unfold Ok; simp only; omega)]
 simp only; omega
theorem join_io {u p : Nat} (h : p ∈ joinF true u) : ∃ j, j < 64 ∧ p = io j := by
 obtain ⟨j, hj, rfl⟩ := List.mem_map.1 h
 exact ⟨j, List.mem_range.1 (List.mem_filter.1 hj).1, rfl⟩
end Go.Proofs.YtmajllgfmclcoaaGreatDoor.Flo
namespace Go.Proofs.YtmajllgfmclcoaaGreatDoor.Flo
open Go.RowKit Go.Proofs.YtmajllgfmclcoaaGreatDoor.Pure Euler Bal Go.Proofs.YtmajllgfmclcoaaGreatDoor.Cell CellF Reg Cels Go.Joins
set_option maxRecDepth 100000 in
set_option maxHeartbeats 4000000 in
theorem sPieceOf (w : World) (A : Option Addr) (n cap B : Nat) (xs : List Int) (hx : xs.length = n) (hn : (n : Int) ≤ 9223372036854775807) (h : RowB w B A xs) (hB : B ≤ w.heap.size) (x y : Int) :
  Calls Tryz.prog 121 #[.agg #[.slice A n cap], .agg #[.int .i64 x, .int .i64 y]] w (NbPost (pieceR xs x y) w) := by
 obtain ⟨i0, hi, hz0, hz1, hz2⟩ := info_parts cellInfo
 obtain ⟨ib, hib, hzb0, hzb1, hzb2⟩ := info_parts boolInfo
 have T0 := Lh (fun T T' => rc_start (T := T) (T' := T') (.slice A n cap) x y w)
 have HH := Lh (fun W (hb : Below w.heap.size w W) => sHasCell W A n cap B xs hx hn (h.below hb hB) (by have := hb.size; omega) x y)
 have HM := Lh (fun (W : World) => World.ownsRow_made (e := 79) (size := 2) W #[] 0 NR (by unfold maxLen; omega) rfl)
 cases hhas : hasB xs x y with
 | false =>
  have HE := Lh (show pieceR xs x y = [] by unfold pieceR; rw [hhas]; rfl)
  rw [hhas] at HH
  clear hhas hx hn h
  go_enter Tryz.func121, Tryz.ntmps121
  go_wp2_with fail
  have T1 := T0.out 26 79
  have h0 : w.heap.size + 1 + 1 = ((w.alloc (.cells #[.slice A n cap] 26)).alloc (.cells #[.int .i64 x, .int .i64 y] 79)).heap.size := by simp
  generalize (w.alloc (.cells #[.slice A n cap] 26)).alloc (.cells #[.int .i64 x, .int .i64 y] 79) = W0 at T1 h0 ⊢
  have T2 := T1.on (below_alloc1 W0 (.cells #[] 79))
  have HO := HM.out W0
  rw [h0]
  refine (HH.out _ T2.1).mono ?_
  rintro e w1 ⟨rfl, hb1⟩
  have hbw := (T2.on hb1).1
  have HO1 := Lh (own_base (B' := w.heap.size) (own_below HO hb1 NR) T1.1.size)
  clear T0 T1 T2 hb1 HH HO HM
  go_wp2
  go_ret
  rw [HE.out]
  exact ⟨_, _, rfl, HO1.out, hbw⟩
 | true =>
  obtain ⟨ho, _⟩ := hasB_iff.1 hhas
  obtain ⟨a, ha, hae, hax, hay, hbit⟩ := has_index hhas
  have hca : clsF xs true (io a) = true := by unfold clsF; rw [cR_io xs ha, hbit]; rfl
  have HHas := Lh (fun W (j : Nat) (hj : j < 64) (hb : Below w.heap.size w W) X Y (hX : X = (plC (io j)).1) (hY : Y = (plC (io j)).2) => show Calls Tryz.prog 93 #[.agg #[.slice A n cap], .agg #[.int .i64 X, .int .i64 Y]] W (Bol (cR xs (io j)) W) by
   rw [hX, hY, plC_io, cR_io xs hj]
   exact sHas W A n cap B xs hx ho (h.below hb hB) (by have := hb.size; omega) (j % 8) (j / 8) (by omega) (by omega))
  have HIx := Lh (fun W (j : Nat) (hj : j < 64) X Y (hX : X = (plC (io j)).1) (hY : Y = (plC (io j)).2) => show Calls Tryz.prog 64 #[.agg #[.int .i64 X, .int .i64 Y]] W (Num (j : Int) W) by
   rw [hX, hY, ← index_io hj]
   exact sCellIndex _ _ W)
  have HIa := Lh (fun W => HIx.out W a ha x y hax hay)
  have HSt := Lh (Lst.start (xs := xs) (g := true) (M := fun _ => false) (io_lt ha).1 rfl hca)
  have HEnd := Lh (show ∀ M', Spr xs true (fun _ => false) (io a) M' → pieceR xs x y = pieceTo xs a 64 ∧ ∀ i, i < 64 → M' (io i) = (bitI xs i && sameP xs a i) by
   intro M' hs
   refine ⟨?_, fun i hi => Spr.piece ha hbit hs hi⟩
   unfold pieceR
   rw [if_pos hhas, ← hae])
  have HAx := Lh (And.intro hax hay)
  have HRing := Lh (fun u (hu : u < 100) (hc : clsF xs true u = true) => show ring u = false by
   cases hr : ring u
   ·rfl
   ·unfold clsF at hc; rw [cR_ring xs u hu hr] at hc; cases hc)
  have ha0 := ha
  rw [hhas] at HH
  clear hhas hx hn h ho hae hax hay hbit hca
  go_enter Tryz.func121, Tryz.ntmps121
  go_wp2_with fail
  have T1 := T0.out 26 79
  have h0 : w.heap.size + 1 + 1 = ((w.alloc (.cells #[.slice A n cap] 26)).alloc (.cells #[.int .i64 x, .int .i64 y] 79)).heap.size := by simp
  generalize (w.alloc (.cells #[.slice A n cap] 26)).alloc (.cells #[.int .i64 x, .int .i64 y] 79) = W0 at T1 h0 ⊢
  have T2 := T1.on (below_alloc1 W0 (.cells #[] 79))
  have HO := HM.out W0
  rw [h0]
  refine (HH.out _ T2.1).mono ?_
  rintro e w3 ⟨rfl, hb1⟩
  have T3 := T2.on hb1
  have HO1 := Lh (own_base (B' := w.heap.size) (own_below HO hb1 NR) T1.1.size)
  have hob : W0.heap.size < w3.heap.size := by have := hb1.size; simp at this; omega
  generalize W0.heap.size = ob at HO1 hob ⊢
  clear T0 T1 T2 hb1 HH HO HM h0
  obtain ⟨hb3, hsz3, cr, cx, cy⟩ := id T3
  have cr3 := cr
  have T3b := hb3
  have HOr := Lh (show RowIn w3 w.heap.size w3.heap.size 79 2 (.slice (some ⟨ob, 0, none⟩) 0 0) 0 [] from ⟨HO1.out, fun g hg => by simp [Value.ownBlock] at hg; omega⟩)
  have hne0 : ob ≠ w3.heap.size := by omega
  have HJa := Lh ha0
  go_wp2_with (first
   | (at_make; refine wpList_make_full _ rfl _ _ 82 rfl w3.heap.size 4 ib (.bool false) 1 Tryz.underlying82 hib hzb0 hzb1 .i64 .i64 64 64 64 rfl rfl (by rfl) (by rfl) (by rw [hzb2]; omega) (by unfold maxLen; omega) NR ?_; intro w4 hown4 hg4; (have hb4 := (Below.refl w3.heap.size w3).grown hg4 NR (by simp)); (have T4 := T3.on hb4); obtain ⟨_, hsz4, cr4, cx4, cy4⟩ := id T4))
  rw [seen_zero] at hown4
  have hb4 := (Below.refl w3.heap.size w3).grown hg4 NR (by simp)
  have T4 := T3.on hb4
  have HR4 := Lh (show RowIn w4 w3.heap.size (w3.heap.size + 1) 4 1 (.slice (some ⟨w3.heap.size, 0, none⟩) 64 64) 64 (seenF (fun _ => false)) from ⟨hown4, fun g hg => by simp [Value.ownBlock] at hg; omega⟩)
  have hs4 : w3.heap.size < w4.heap.size := (hown4.lt w3.heap.size rfl).2
  refine (HIa.out _).mono ?_
  rintro e w5 ⟨rfl, hb5⟩
  have T5 := T4.on hb5
  have HR5 := Lh (HR4.out.on hb5)
  have hb5' := hb4.trans (hb5.mono (by omega))
  have hs5 : w3.heap.size < w5.heap.size := by have := hb5.size; omega
  have HO5 := Lh (own_below HO1.out hb5' NR)
  have HB3 := Lh hb3
  clear hown4 hg4 hb4 T4 HR4 hs4 hb5 T3 HO1 cr cx cy hb3
  obtain ⟨_, hsz5, cr, cx, cy⟩ := id T5
  have hcs := own_cell HR5.out.1 (rowF_at (fun i => .bool ((fun _ => false) (io i))) HJa.out)
  have hfz := HR5.out.1.frozenAt a
  have HPS := Lh (ps_start hb5' hs5 HR5.out HAx.out.1 HAx.out.2)
  have HOb := Lh (show ob < w3.heap.size from hob)
  have HBox := Lh (fun W (hb : Below w3.heap.size w3 W) => show W.cell? ⟨w.heap.size, 0, none⟩ = some (.slice A n cap) from (hb.cell (by show w.heap.size < _; omega)).trans cr3)
  have haI : (a : Int) < 64 := by have := HJa.out; omega
  have hbs := (Below.refl w3.heap.size w5).setCell (p := ⟨w3.heap.size, a, none⟩) NR (.bool true)
  have cx' := (hbs.cell (p := ⟨w.heap.size + 1, 0, none⟩) (by show w.heap.size + 1 < _; omega)).trans cx
  have cy' := (hbs.cell (p := ⟨w.heap.size + 1, 1, none⟩) (by show w.heap.size + 1 < _; omega)).trans cy
  clear cx cy hbs
  go_wp2_with fail
  have hne := hne0
  generalize hsb : w3.heap.size = sb at HPS HOr HBox hne ⊢
  have HSb := Lh hsb
  generalize w5.heap.size = lb at HPS ⊢
  generalize (w5.setCell ⟨sb, a, none⟩ (.bool true)).alloc (.cells #[.int .i64 x, .int .i64 y] 79) = W6 at HPS ⊢
  have HW3 := Lh T3b
  have hsbw : w.heap.size ≤ sb := by omega
  clear cr hfz hcs T5 HR5 hb5' hs5 HO5 cx' cy' hsz5 HAx HIa HB3 hsb T3b haI cr3 hsz3 HOb hob hzb2 hzb1 hzb0 hib hne0
  go_loopw [7, 8] (fun lv i wr => ∃ (k : Nat) (L : List Nat) (M : Nat → Bool) (lg lc : Nat), k ≤ L.length ∧ i = .int .i64 k ∧ lv = .slice (some ⟨lg, 0, none⟩) L.length lc ∧ Lst xs true (fun _ => false) (io a) L M k [] ∧ PS w3 sb lb M L lg lc wr) (fun _ i _ => 64 - (intOf i).toNat)
  case atStart => exact ⟨0, [io a], _, _, _, Nat.zero_le _, rfl, rfl, HSt.out, HPS.out⟩
  case round =>
   clear HPS HSt
   obtain ⟨k, L, M, lg, lc, hk, rfl, rfl, hlst, hps⟩ := hrel
   have hl64 := hlst.short64
   have HLst := Lh hlst
   have HPs := Lh hps
   by_cases hlt : k < L.length
   ·obtain ⟨u, hu⟩ : ∃ u, L[k]? = some u := ⟨_, List.getElem?_eq_getElem hlt⟩
    obtain ⟨hu100, _, hcu, _⟩ := hlst.2.2.2.1 u (List.mem_of_getElem? hu)
    obtain ⟨c0, c1⟩ := hps.list hu
    obtain ⟨x', hx'⟩ : ∃ x', x' = (plC u).1 := ⟨_, rfl⟩
    obtain ⟨y', hy'⟩ : ∃ y', y' = (plC u).2 := ⟨_, rfl⟩
    rw [← hx'] at c0
    rw [← hy'] at c1
    have HNb := Lh (specNb' wr hu100 (HRing.out u hu100 hcu) hx' hy')
    have HU := Lh hu
    clear hlst hps hu hu100 hcu hx' hy'
    go_wp2_with fail
    refine HNb.out.mono ?_
    rintro e w6 ⟨An, cn, rfl, hown, hb6⟩
    have HJ := Lh (fun i (hi : i < ((joinF true u).map plC).length) => show ∃ j, j < 64 ∧ (joinF true u)[i]? = some (io j) ∧ io j ∈ joinF true u ∧ (joinF true u).take (i + 1) = (joinF true u).take i ++ [io j] by
     rw [List.length_map] at hi
     obtain ⟨j, hj, e⟩ := join_io (List.getElem_mem hi)
     exact ⟨j, hj, by rw [List.getElem?_eq_getElem hi, e], by rw [← e]; exact List.getElem_mem hi, by rw [List.take_succ_eq_append_getElem hi, e]⟩)
    have HJe := Lh (show (joinF true u).take ((joinF true u).map plC).length = joinF true u by rw [List.length_map]; exact List.take_length)
    have HJl := Lh (show ((joinF true u).map plC).length ≤ 64 by rw [List.length_map]; exact joinF_length true u)
    obtain ⟨m, hm⟩ : ∃ m, m = ((joinF true u).map plC).length := ⟨_, rfl⟩
    rw [← hm] at HJ HJe HJl hown ⊢
    have HPn := Lh (show PN w3 sb lb M L lg lc wr.heap.size w6.heap.size (.slice An m cn) m (joinF true u) w6 from ⟨HPs.out.on hb6, rowIn_new hown, .inl HPs.out.lg_lt.2, Nat.le_refl _, HPs.out.2.2.1⟩)
    have hm64 := HJl.out
    generalize wr.heap.size = nlo at HPn
    generalize w6.heap.size = nhi at HPn
    clear hown hb6 HPs HNb hm c0 c1 HJl
    go_wp2_with fail
    go_loopw [7, 10] (fun lv i wr => ∃ (q : Nat) (L : List Nat) (M : Nat → Bool) (lg lc : Nat), q ≤ m ∧ i = .int .i64 q ∧ lv = .slice (some ⟨lg, 0, none⟩) L.length lc ∧ L[k]? = some u ∧ Lst xs true (fun _ => false) (io a) L M k ((joinF true u).take q) ∧ PN w3 sb lb M L lg lc nlo nhi (.slice An m cn) m (joinF true u) wr) (fun _ i _ => m - (intOf i).toNat)
    case atStart => exact ⟨0, L, M, lg, lc, Nat.zero_le _, rfl, rfl, HU.out, HLst.out, HPn.out⟩
    case round =>
     clear HPn HLst HU hl64 hlt hk
     obtain ⟨i, L, M, lg, lc, hiq, rfl, rfl, hu, hlst, hpn⟩ := hrel
     have hl64 := hlst.short64
     have HLst := Lh hlst
     have HPn := Lh hpn
     have HU := Lh hu
     by_cases hlti : i < m
     ·obtain ⟨j, hj, hpi, hpj, htk⟩ := HJ.out i hlti
      obtain ⟨nb, c', hv1, _, _⟩ := hpn.2.1.1.form (by omega)
      injection hv1 with hA2 hm2 hc2
      subst hA2
      subst hc2
      obtain ⟨x', hx'⟩ : ∃ x', x' = (plC (io j)).1 := ⟨_, rfl⟩
      obtain ⟨y', hy'⟩ : ∃ y', y' = (plC (io j)).2 := ⟨_, rfl⟩
      have HHas' := Lh (fun W hb => HHas.out W j hj hb x' y' hx' hy')
      have HIx' := Lh (fun W => HIx.out W j hj x' y' hx' hy')
      obtain ⟨cb, hcb⟩ : ∃ cb, cb = cR xs (io j) := ⟨_, rfl⟩
      obtain ⟨mb, hmb⟩ : ∃ mb, mb = M (io j) := ⟨_, rfl⟩
      rw [← hcb] at HHas'
      obtain ⟨P, hP⟩ : ∃ P : World → Prop, P = PN w3 sb lb M L lg lc nlo nhi (.slice (some ⟨nb, 0, none⟩) m cn) m (joinF true u) := ⟨_, rfl⟩
      have HPe := Lh hP
      have HPon := Lh (show ∀ W W', P W → Below W.heap.size W W' → P W' by rw [hP]; exact fun W W' h hb => h.on hb)
      have HPd := Lh (show ∀ W, P W → P W.drew by rw [hP]; exact fun W h => h.drew)
      have HPb := Lh (show ∀ W, P W → Below w.heap.size w W by rw [hP]; exact fun W h => HW3.out.trans (h.1.1.mono hsbw))
      have HS := Lh (show ∀ W, P W → P W ∧ W.cell? ⟨w.heap.size, 0, none⟩ = some (.slice A n cap) ∧ W.cell? ⟨nb, i * 2, none⟩ = some (.int .i64 x') ∧ W.cell? ⟨nb, i * 2 + 1, none⟩ = some (.int .i64 y') ∧ W.cell? ⟨sb, j, none⟩ = some (.bool mb) by
       rw [hP, hx', hy', hmb]
       exact fun W h => ⟨h, HBox.out W h.1.1, (h.cell hpi).1, (h.cell hpi).2, h.1.seen hj⟩)
      have HHas2 := Lh (fun W (h : P W) => HHas'.out W (HPb.out W h))
      have HPw := Lh (show P wr by rw [hP]; exact hpn)
      have HX := Lh (And.intro hx' hy')
      have HMb := Lh hmb
      have HCb := Lh hcb
      have HK := Lh (And.intro hpi (And.intro hpj htk))
      have hjI : (j : Int) < 64 := by omega
      clear hP hpn hlst hu hpi hpj htk hx' hy' hmb hcb HHas' HHas HIx HPb
      cases cb with
      | false =>
       have HNx := Lh (show Lst xs true (fun _ => false) (io a) L M k ((joinF true u).take (i + 1)) by
        rw [HK.out.2.2]; exact HLst.out.skip (fun q => by unfold clsF at q; rw [← HCb.out] at q; cases q))
       go_wp2_with fail
       refine wp_region_noPanic ?_
       refine wp_region_held_drew (S := (fun w' => P w' ∧ w'.cell? ⟨w.heap.size, 0, none⟩ = some (.slice A n cap) ∧ w'.cell? ⟨nb, i * 2, none⟩ = some (.int .i64 x') ∧ w'.cell? ⟨nb, i * 2 + 1, none⟩ = some (.int .i64 y') ∧ w'.cell? ⟨sb, j, none⟩ = some (.bool mb))) (by kernel_rfl) (HS.out _ (HPd.out _ HPw.out)) (fun hHeld => ?_)
       refine tk 0 ?_; try simp only [Act.put, zk]
       refine tk 1 ?_; try simp only [Act.put, zk]
       refine tk 2 ?_; try simp only [Act.put, zk]
       refine tk 3 ?_; try simp only [Act.put, zk]
       refine tk 4 ?_; try simp only [Act.put, zk]
       refine tr 5 fun K hK => ?_
       go_simp
       refine (HHas2.out _ hHeld.1).mono ?_
       rintro e wx ⟨rfl, hbx⟩
       go_wp2_with fail
       refine hK.out _ _ (HS.out _ (HPon.out _ _ hHeld.1 hbx)) (fun hHeld => ?_)
       clear hK K
       try simp only [Act.put, zk]
       refine tk 6 ?_; try simp only [Act.put, zk]
       refine tu 7 ?_; try simp only [Act.put, zk]
       refine tu 8 ?_; try simp only [Act.put, zk]
       refine tu 9 ?_; try simp only [Act.put, zk]
       refine tu 10 ?_; try simp only [Act.put, zk]
       refine tu 11 ?_; try simp only [Act.put, zk]
       refine tu 12 ?_; try simp only [Act.put, zk]
       refine tu 13 ?_; try simp only [Act.put, zk]
       refine tu 14 ?_; try simp only [Act.put, zk]
       refine tu 15 ?_; try simp only [Act.put, zk]
       refine tk 16 ?_; try simp only [Act.put, zk]
       refine wpAnyH_done (by kernel_rfl) (NoPanic.normal ?_) _
       have hend := hHeld.1
       clear hHeld
       have HPend := Lh (show PN w3 sb lb M L lg lc nlo nhi (.slice (some ⟨nb, 0, none⟩) m cn) m (joinF true u) _ by have q := hend; rw [HPe.out] at q; exact q)
       clear hend
       go_wp2
       go_roundw
       case rel => exact ⟨i + 1, L, M, lg, lc, by omega, by go_num, rfl, HU.out, HNx.out, HPend.out⟩
       case measure => (simp [intOf] <;> omega)
      | true =>
       have HCu := Lh (show clsF xs true (io j) = true by unfold clsF; rw [← HCb.out]; rfl)
       cases mb with
       | true =>
        have HNx := Lh (show Lst xs true (fun _ => false) (io a) L M k ((joinF true u).take (i + 1)) by
         rw [HK.out.2.2]; exact HLst.out.skip (fun q => HMb.out.symm))
        go_wp2_with fail
        refine wp_region_noPanic ?_
        refine wp_region_held_drew (S := (fun w' => P w' ∧ w'.cell? ⟨w.heap.size, 0, none⟩ = some (.slice A n cap) ∧ w'.cell? ⟨nb, i * 2, none⟩ = some (.int .i64 x') ∧ w'.cell? ⟨nb, i * 2 + 1, none⟩ = some (.int .i64 y') ∧ w'.cell? ⟨sb, j, none⟩ = some (.bool true))) (by kernel_rfl) (HS.out _ (HPd.out _ HPw.out)) (fun hHeld => ?_)
        refine tk 0 ?_; try simp only [Act.put, zk]
        refine tk 1 ?_; try simp only [Act.put, zk]
        refine tk 2 ?_; try simp only [Act.put, zk]
        refine tk 3 ?_; try simp only [Act.put, zk]
        refine tk 4 ?_; try simp only [Act.put, zk]
        refine tr 5 fun K hK => ?_
        go_simp
        refine (HHas2.out _ hHeld.1).mono ?_
        rintro e wx ⟨rfl, hbx⟩
        go_wp2_with fail
        refine hK.out _ _ (HS.out _ (HPon.out _ _ hHeld.1 hbx)) (fun hHeld => ?_)
        clear hK K
        try simp only [Act.put, zk]
        refine tk 6 ?_; try simp only [Act.put, zk]
        refine tk 7 ?_; try simp only [Act.put, zk]
        refine tk 8 ?_; try simp only [Act.put, zk]
        refine tk 9 ?_; try simp only [Act.put, zk]
        refine tk 10 ?_; try simp only [Act.put, zk]
        refine tk 11 ?_; try simp only [Act.put, zk]
        refine tr 12 fun K hK => ?_
        go_simp
        refine (HIx'.out _).mono ?_
        rintro e wx ⟨rfl, hbx⟩
        go_wp2_with fail
        refine hK.out _ _ (HS.out _ (HPon.out _ _ hHeld.1 hbx)) (fun hHeld => ?_)
        clear hK K
        try simp only [Act.put, zk]
        refine tk 13 ?_; try simp only [Act.put, zk]
        refine tk 14 ?_; try simp only [Act.put, zk]
        refine tk 15 ?_; try simp only [Act.put, zk]
        refine tk 16 ?_; try simp only [Act.put, zk]
        refine wpAnyH_done (by kernel_rfl) (NoPanic.normal ?_) _
        have hend := hHeld.1
        clear hHeld
        have HPend := Lh (show PN w3 sb lb M L lg lc nlo nhi (.slice (some ⟨nb, 0, none⟩) m cn) m (joinF true u) _ by have q := hend; rw [HPe.out] at q; exact q)
        clear hend
        go_wp2
        go_roundw
        case rel => exact ⟨i + 1, L, M, lg, lc, by omega, by go_num, rfl, HU.out, HNx.out, HPend.out⟩
        case measure => (simp [intOf] <;> omega)
       | false =>
        go_wp2_with fail
        refine wp_region_noPanic ?_
        refine wp_region_held_drew (S := (fun w' => P w' ∧ w'.cell? ⟨w.heap.size, 0, none⟩ = some (.slice A n cap) ∧ w'.cell? ⟨nb, i * 2, none⟩ = some (.int .i64 x') ∧ w'.cell? ⟨nb, i * 2 + 1, none⟩ = some (.int .i64 y') ∧ w'.cell? ⟨sb, j, none⟩ = some (.bool false))) (by kernel_rfl) (HS.out _ (HPd.out _ HPw.out)) (fun hHeld => ?_)
        refine tk 0 ?_; try simp only [Act.put, zk]
        refine tk 1 ?_; try simp only [Act.put, zk]
        refine tk 2 ?_; try simp only [Act.put, zk]
        refine tk 3 ?_; try simp only [Act.put, zk]
        refine tk 4 ?_; try simp only [Act.put, zk]
        refine tr 5 fun K hK => ?_
        go_simp
        refine (HHas2.out _ hHeld.1).mono ?_
        rintro e wx ⟨rfl, hbx⟩
        go_wp2_with fail
        refine hK.out _ _ (HS.out _ (HPon.out _ _ hHeld.1 hbx)) (fun hHeld => ?_)
        clear hK K
        try simp only [Act.put, zk]
        refine tk 6 ?_; try simp only [Act.put, zk]
        refine tk 7 ?_; try simp only [Act.put, zk]
        refine tk 8 ?_; try simp only [Act.put, zk]
        refine tk 9 ?_; try simp only [Act.put, zk]
        refine tk 10 ?_; try simp only [Act.put, zk]
        refine tk 11 ?_; try simp only [Act.put, zk]
        refine tr 12 fun K hK => ?_
        go_simp
        refine (HIx'.out _).mono ?_
        rintro e wx ⟨rfl, hbx⟩
        go_wp2_with fail
        refine hK.out _ _ (HS.out _ (HPon.out _ _ hHeld.1 hbx)) (fun hHeld => ?_)
        clear hK K
        try simp only [Act.put, zk]
        refine tk 13 ?_; try simp only [Act.put, zk]
        refine tk 14 ?_; try simp only [Act.put, zk]
        refine tk 15 ?_; try simp only [Act.put, zk]
        refine tk 16 ?_; try simp only [Act.put, zk]
        refine wpAnyH_done (by kernel_rfl) (NoPanic.normal ?_) _
        have hend := hHeld.1
        clear hHeld
        obtain ⟨_, _, hn0, hn1, _⟩ := HS.out _ hend
        go_wp2_with fail
        refine (HIx'.out _).mono ?_
        rintro e w7 ⟨rfl, hb7⟩
        have hP7 := HPon.out _ _ hend hb7
        rw [HPe.out] at hP7
        have hsc := hP7.1.seen hj
        have hfz := hP7.1.frozen j
        have hP8 := hP7.mark j
        obtain ⟨n0', n1'⟩ := hP8.cell HK.out.1
        rw [← HX.out.1] at n0'
        rw [← HX.out.2] at n1'
        have HP8 := Lh hP8
        have HO8 := Lh hP8.1.2.2.2.2
        have hlb := hP8.1.2.2.1
        have HNx := Lh (HLst.out.put HU.out HK.out.2.1 HCu.out HMb.out.symm)
        rw [← HMb.out] at hsc
        generalize hW8 : w7.setCell ⟨sb, j, none⟩ (.bool true) = W8 at hP8 n0' n1' HP8 HO8 hlb
        clear hP7 hP8 hend hn0 hn1 HS HPon HPd HHas2 HPw HIx' HPe hb7
        have HXv := Lh (show plC (io j) = (x', y') from Prod.ext HX.out.1.symm HX.out.2.symm)
        go_wp2_with (first
         | (at_builtin; refine App.wpList_append_at _ rfl _ _ 75 rfl lb 79 i0 (.agg #[.int .i64 0, .int .i64 0]) 2 16 Tryz.underlying75 hi hz0 hz1 hz2 rfl (by decide) lg lc L.length (rowC (L.map plC)) rfl (HO8.out.alloc _) ⟨W8.heap.size, 0, none⟩ 1 1 [.int .i64 x', .int .i64 y'] rfl rfl (World.news_of_block (cs := #[.int .i64 x', .int .i64 y']) (t := 79) (fr := (0, 0)) (heap_alloc_new W8 _)) (by simp [Value.oneCell']) (by unfold maxLen; omega) (by omega) (by simp; omega) ?_; intro v2 w8 hown8 hgrow hwh))
        obtain ⟨lg2, hlg2, hlw⟩ : ∃ lg2, v2.ownBlock = some lg2 ∧ (lg2 = lg ∨ lg2 = (W8.alloc (.cells #[.int .i64 x', .int .i64 y'] 79)).heap.size) := by
         rcases hwh with q | q
         ·exact ⟨lg, q, .inl rfl⟩
         ·exact ⟨_, q, .inr rfl⟩
        obtain ⟨lc2, rfl⟩ := own_form hown8 hlg2
        have HP9 := Lh ((HP8.out.on (below_alloc1 W8 (.cells #[.int .i64 x', .int .i64 y'] 79))).app (p := io j) (by rw [HXv.out]; exact hown8) hgrow hlw)
        have HLn := Lh (show (L ++ [io j]).length = L.length + 1 by rw [List.length_append]; rfl)
        have HUn := Lh (show (L ++ [io j])[k]? = some u by
         have q := HU.out
         have hkl : k < L.length := by
          rcases Nat.lt_or_ge k L.length with q2 | q2
          ·exact q2
          ·rw [List.getElem?_eq_none q2] at q; cases q
         rw [List.getElem?_append_left hkl]; exact q)
        have HNx2 := Lh (show Lst xs true (fun _ => false) (io a) (L ++ [io j]) (putM M (io j)) k ((joinF true u).take (i + 1)) by rw [HK.out.2.2]; exact HNx.out)
        clear hown8 hgrow hwh hlw hlg2 hW8
        go_roundw
        case rel => exact ⟨i + 1, L ++ [io j], putM M (io j), lg2, lc2, by omega, by go_num, by rw [HLn.out], HUn.out, HNx2.out, HP9.out⟩
        case measure => (simp [intOf] <;> omega)
     ·obtain rfl : i = m := by omega
      have HNx := Lh (show Lst xs true (fun _ => false) (io a) L M (k + 1) [] by have q := HLst.out; rw [HJe.out] at q; exact q.next HU.out)
      have hkl : k < L.length := by
       rcases Nat.lt_or_ge k L.length with q | q
       ·exact q
       ·rw [List.getElem?_eq_none q] at hu; cases hu
      clear hlst hpn hu
      go_wp2
      go_roundw
      case rel => exact ⟨k + 1, L, M, lg, lc, by omega, by go_num, rfl, HNx.out, HPn.out.1⟩
      case measure => (simp [intOf] <;> omega)
   ·obtain rfl : k = L.length := by omega
    have HE := Lh (HEnd.out M hlst.done)
    have HSeen := Lh hps.2.2.2.1
    have HO3 := Lh (HOr.out.belowB hps.1 NR)
    have hbw := HW3.out.trans (hps.1.mono hsbw)
    have hsz : sb < wr.heap.size := by have h1 := hps.2.1; have h2 := hps.2.2.1; omega
    clear hlst hps HLst HPs HEnd HOr HBox HHas HIx HRing hl64
    go_wp2_with fail
    go_loopw [5, 11] (fun ov i wr => ∃ (k og oc : Nat), k ≤ 64 ∧ i = .int .i64 k ∧ ov = .slice (some ⟨og, 0, none⟩) (pieceTo xs a k).length oc ∧ og ≠ sb ∧ wr.ownsRow w.heap.size 79 2 (.slice (some ⟨og, 0, none⟩) (pieceTo xs a k).length oc) (pieceTo xs a k).length (rowC (pieceTo xs a k)) ∧ RowIn wr sb (sb + 1) 4 1 (.slice (some ⟨sb, 0, none⟩) 64 64) 64 (seenF M) ∧ sb < wr.heap.size ∧ Below w.heap.size w wr) (fun _ i _ => 64 - (intOf i).toNat)
    case atStart => exact ⟨0, ob, 0, by omega, rfl, rfl, hne, HO3.out.1, HSeen.out, hsz, hbw⟩
    case round =>
     clear HO3 HSeen hbw hsz
     obtain ⟨k, og, oc, hk, rfl, rfl, hne', hown, hseen, hsz, hbw⟩ := hrel
     have HO := Lh hown
     have HS := Lh hseen
     have hog := (hown.lt og rfl).2
     have HLk := Lh (pieceTo_length xs a k)
     by_cases hlt : k < 64
     ·have hcs := own_cell hseen.1 (rowF_at (fun i => .bool (M (io i))) hlt)
      have hMk := HE.out.2 k hlt
      have hcase : (M (io k) = true ∧ Hid (pieceTo xs a (k + 1) = pieceTo xs a k ++ [(((k % 8 : Nat) : Int), ((k / 8 : Nat) : Int))])) ∨ (M (io k) = false ∧ Hid (pieceTo xs a (k + 1) = pieceTo xs a k)) := by
       cases q : (bitI xs k && sameP xs a k)
       ·exact .inr ⟨hMk.trans q, Lh (pieceTo_no q)⟩
       ·exact .inl ⟨hMk.trans q, Lh (pieceTo_yes q)⟩
      clear hMk hown hseen
      rcases hcase with ⟨hM, HN⟩ | ⟨hM, HN⟩
      ·rw [hM] at hcs
       clear hM
       obtain ⟨hax, hay⟩ := at_nat hlt
       go_wp2_with fail
       refine (sCellAt k _).mono ?_
       rintro e w7 ⟨rfl, hb7⟩
       rw [hax, hay]
       have hb' := hbw.trans (hb7.mono hbw.size)
       have HO7 := Lh (own_below HO.out hb7 NR)
       have HS7 := Lh (HS.out.on hb7)
       have hz7 := hb7.size
       have hzw := hbw.size
       generalize hX : ((k % 8 : Nat) : Int) = X at HN ⊢
       generalize hY : ((k / 8 : Nat) : Int) = Y at HN ⊢
       clear hax hay hb7 HO HS hcs hX hY hbw
       go_wp2_with (first
        | (at_builtin; refine App.wpList_append_at _ rfl _ _ 75 rfl w.heap.size 79 i0 (.agg #[.int .i64 0, .int .i64 0]) 2 16 Tryz.underlying75 hi hz0 hz1 hz2 rfl (by decide) og oc (pieceTo xs a k).length (rowC (pieceTo xs a k)) rfl (HO7.out.alloc _ |>.alloc _) ⟨w7.heap.size + 1, 0, none⟩ 1 1 [.int .i64 X, .int .i64 Y] rfl rfl (World.news_of_block (cs := #[.int .i64 X, .int .i64 Y]) (t := 79) (fr := (0, 0)) (by simpa using heap_alloc_new (w7.alloc _) _)) (by simp [Value.oneCell']) (by have := HLk.out; unfold maxLen; omega) (by have := HLk.out; omega) (by simp; omega) ?_; intro v2 w8 hown8 hgrow hwh))
       obtain ⟨og2, hog2, hne2⟩ : ∃ og2, v2.ownBlock = some og2 ∧ og2 ≠ sb := by
        rcases hwh with q | q
        ·exact ⟨og, q, hne'⟩
        ·exact ⟨_, q, by simp; omega⟩
       obtain ⟨oc2, rfl⟩ := own_form hown8 hog2
       have hol := (HO7.out.lt og rfl).1
       have hb8 : Below w.heap.size w w8 := ((hb'.alloc (by omega) _).alloc (by simp; omega) _).grown hgrow (by simp; omega) (fun g hg => by cases hg; omega)
       have HS8 := Lh (show RowIn w8 sb (sb + 1) 4 1 (.slice (some ⟨sb, 0, none⟩) 64 64) 64 (seenF M) from ⟨((HS7.out.1.alloc _).alloc _).kept hgrow (.inr (by intro q; simp [Value.ownBlock] at q; exact hne' q.symm)), HS7.out.2⟩)
       have hz8 := hgrow.size
       simp at hz8
       have HO8 := Lh (show w8.ownsRow w.heap.size 79 2 (.slice (some ⟨og2, 0, none⟩) (pieceTo xs a (k + 1)).length oc2) (pieceTo xs a (k + 1)).length (rowC (pieceTo xs a (k + 1))) by
        rw [HN.out, rowC_snoc, List.length_append]; exact hown8)
       have HLn := Lh (show (pieceTo xs a (k + 1)).length = (pieceTo xs a k).length + 1 by rw [HN.out, List.length_append]; rfl)
       clear hown8 hgrow hwh
       go_roundw
       case rel => exact ⟨k + 1, og2, oc2, by omega, by go_num, by rw [HLn.out], hne2, HO8.out, HS8.out, by omega, hb8⟩
       case measure => (simp [intOf] <;> omega)
      ·rw [hM] at hcs
       clear hM
       go_wp2
       go_roundw
       case rel => exact ⟨k + 1, og, oc, by omega, by go_num, by rw [HN.out], hne', by rw [HN.out]; exact HO.out, HS.out, hsz, hbw⟩
       case measure => (simp [intOf] <;> omega)
     ·obtain rfl : k = 64 := by omega
      clear hown hseen
      go_wp2
      go_ret
      rw [HE.out.1]
      exact ⟨_, _, rfl, HO.out, hbw⟩
end Go.Proofs.YtmajllgfmclcoaaGreatDoor.Flo
