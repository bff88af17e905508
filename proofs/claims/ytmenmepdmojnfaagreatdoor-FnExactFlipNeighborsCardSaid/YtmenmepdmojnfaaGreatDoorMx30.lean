/- Fts, Fnd, Ctn, DomW in one text. -/
import Derived.Test.YtmenmepdmojnfaaGreatDoorMx20
import Derived.Test.YtmenmepdmojnfaaGreatDoorMx28
import Derived.Test.YtmenmepdmojnfaaGreatDoorMx18
import Derived.Test.YtmenmepdmojnfaaGreatDoorMx21
import Derived.Test.YtmenmepdmojnfaaGreatDoorMx02

namespace Go.Proofs.YtmenmepdmojnfaaGreatDoor.Wg
set_option linter.unusedVariables false
set_option linter.unusedSimpArgs false
open Go.RowKit Go.Proofs.YtmenmepdmojnfaaGreatDoor.Base Go.Proofs.YtmenmepdmojnfaaGreatDoor.Pure Go.Proofs.YtmenmepdmojnfaaGreatDoor.Dom Go.Proofs.YtmenmepdmojnfaaGreatDoor.Dms Go.Proofs.YtmenmepdmojnfaaGreatDoor.Til Go.Proofs.YtmenmepdmojnfaaGreatDoor.Grd Go.Proofs.YtmenmepdmojnfaaGreatDoor.Flp Go.Joins
open Go.Proofs.YtmenmepdmojnfaaGreatDoor.Lis (allT all_til)
open Go.Proofs.YtmenmepdmojnfaaGreatDoor.Ext (allR allR_ok allR_not)
open Go.Proofs.YtmenmepdmojnfaaGreatDoor.Lst (listR idxR idx_at idx_end)
open Go.Proofs.YtmenmepdmojnfaaGreatDoor.Reg (own_below own_base)

theorem til_fits {xs : List Int} {L : List Dm} (h : tilB xs L = true) : Fits L := by
 have hp : partB xs L = true := by unfold tilB at h; rw [Bool.and_eq_true] at h; exact h.1
 exact Go.Proofs.YtmenmepdmojnfaaGreatDoor.Grd.fits_ok (Grd.part_valid hp)
abbrev Ft := (Int × Int) × Nat
def ftsTo (T : List (List Dm)) (L : List Dm) (j : Nat) : List Ft := ((flipsR L).take j).map fun c => (c, idx T (flipL L c.1 c.2))
def fts (T : List (List Dm)) (L : List Dm) : List Ft := (flipsR L).map fun c => (c, idx T (flipL L c.1 c.2))
theorem ftsTo_all (T : List (List Dm)) (L : List Dm) : ftsTo T L (flipsR L).length = fts T L := by unfold ftsTo fts; rw [List.take_length]
theorem fts_length (T : List (List Dm)) (L : List Dm) : (fts T L).length = (flipsR L).length := by unfold fts; rw [List.length_map]
theorem ftsTo_step {T : List (List Dm)} {L : List Dm} {j : Nat} (h : j < (flipsR L).length) : ftsTo T L (j + 1) = ftsTo T L j ++ [((flipsR L)[j], idx T (flipL L (flipsR L)[j].1 (flipsR L)[j].2))] := by
 unfold ftsTo
 rw [List.take_succ_eq_append_getElem h, List.map_append]; rfl
theorem flips_le (L : List Dm) : (flipsR L).length ≤ 64 := by
 have h2 := flipsTo_length L 64
 rwa [flipsTo_all] at h2
structure Gd (T : List (List Dm)) : Prop where
 nd : T.Nodup
 cl : ∀ (k : Nat) (hk : k < T.length) (c : Int × Int), c ∈ flipsR T[k] → ∃ j, ∃ hj : j < T.length, T[j] = flipL T[k] c.1 c.2
 lk : ∀ (k : Nat) (hk : k < T.length), lnk T k = (fts T T[k]).map (·.2)
 sy : ∀ i j, Ed (lnk T) i j → Ed (lnk T) j i
 ft : ∀ L ∈ T, Fits L
theorem gd_nil : Gd [] := ⟨List.nodup_nil, fun k hk => by simp at hk, fun k hk => by simp at hk, (fun i j h => by
 unfold Ed at h
 rw [lnk_out (Nat.zero_le _)] at h; cases h), (fun L h => by cases h)⟩
theorem list_gd (xs : List Int) : Gd (listR xs) := by
 unfold listR
 split
 ·by_cases ho : okR xs
  ·rw [allR_ok ho]
   exact ⟨allT_nodup xs, fun k hk c hc => by obtain ⟨hj, e, _⟩ := flip_at ho hk hc; exact ⟨_, hj, e⟩, fun k hk => by
    rw [lnk_map ho hk]; unfold fts; rw [List.map_map]; rfl, ed_symm ho, fun L hL => til_fits (all_til ho L hL)⟩
  ·rw [allR_not ho]; exact gd_nil
 ·exact gd_nil
theorem idxR_of {T : List (List Dm)} (hn : T.Nodup) {j : Nat} (hj : j < T.length) : idxR T T[j] = (j : Int) :=
 idx_at hj (fun i hi hij e => by have := (List.getElem_inj hn).1 e; omega) rfl
theorem Gd.idx {T : List (List Dm)} (g : Gd T) {k : Nat} (hk : k < T.length) {c : Int × Int} (hc : c ∈ flipsR T[k]) :
  idx T (flipL T[k] c.1 c.2) < T.length ∧ idxR T (flipL T[k] c.1 c.2) = (Wg.idx T (flipL T[k] c.1 c.2) : Int) := by
 obtain ⟨j, hj, e⟩ := g.cl k hk c hc
 rw [← e, idx_one g.nd hj, idxR_of g.nd hj]
 exact ⟨hj, rfl⟩
theorem Gd.lt {T : List (List Dm)} (g : Gd T) {k : Nat} (hk : k < T.length) : ∀ p ∈ fts T T[k], p.2 < T.length := by
 intro p hp
 unfold fts at hp
 obtain ⟨c, hc, rfl⟩ := List.mem_map.1 hp
 exact (g.idx hk hc).1
def rowT (l : List Ft) : List Value := l.flatMap fun p => [.int .i64 p.1.1, .int .i64 p.1.2, .int .i64 (p.2 : Int)]
theorem rowT_cons (p : Ft) (l : List Ft) : rowT (p :: l) = .int .i64 p.1.1 :: .int .i64 p.1.2 :: .int .i64 (p.2 : Int) :: rowT l := rfl
theorem rowT_snoc (l : List Ft) (p : Ft) : rowT (l ++ [p]) = rowT l ++ [.int .i64 p.1.1, .int .i64 p.1.2, .int .i64 (p.2 : Int)] := by unfold rowT; simp
theorem rowT_length (l : List Ft) : (rowT l).length = l.length * 3 := by
 induction l with
 | nil => rfl
 | cons p l ih => rw [rowT_cons]; simp only [List.length_cons, ih]; omega
theorem rowT_at (L : List Ft) : ∀ (j : Nat) (d : Ft), L[j]? = some d → (rowT L)[j * 3]? = some (.int .i64 d.1.1) ∧ (rowT L)[j * 3 + 1]? = some (.int .i64 d.1.2) ∧ (rowT L)[j * 3 + 2]? = some (.int .i64 (d.2 : Int)) := by
 induction L with
 | nil => intro j d h; simp at h
 | cons q L ih =>
  intro j d h
  rw [rowT_cons]
  cases j with
  | zero => simp at h; subst h; exact ⟨rfl, rfl, rfl⟩
  | succ j =>
   have h' : L[j]? = some d := by simpa using h
   rw [show (j + 1) * 3 = j * 3 + 1 + 1 + 1 from by omega]
   obtain ⟨a, b, c⟩ := ih j d h'
   exact ⟨by simpa using a, by simpa using b, by simpa using c⟩
def RdT (w : World) (B : Nat) (A : Option Addr) (l : List Ft) : Prop :=
 ∃ b : Nat, (0 < l.length → A = some ⟨b, 0, none⟩ ∧ b < B) ∧ ∀ (j : Nat) (hj : j < l.length),
  w.cell? ⟨b, j * 3, none⟩ = some (.int .i64 l[j].1.1) ∧ w.cell? ⟨b, j * 3 + 1, none⟩ = some (.int .i64 l[j].1.2) ∧ w.cell? ⟨b, j * 3 + 2, none⟩ = some (.int .i64 ((l[j].2 : Nat) : Int))
theorem RdT.below {w w' : World} {B B' : Nat} {A : Option Addr} {l : List Ft} (h : RdT w B A l) (hb : Below B' w w') (hB : B ≤ B') : RdT w' B A l := by
 obtain ⟨b, h1, h2⟩ := h
 refine ⟨b, h1, fun j hj => ?_⟩
 have hlt : b < B' := by have := (h1 (by omega)).2; omega
 rw [hb.cell (p := ⟨b, j * 3, none⟩) hlt, hb.cell (p := ⟨b, j * 3 + 1, none⟩) hlt, hb.cell (p := ⟨b, j * 3 + 2, none⟩) hlt]
 exact h2 j hj
theorem RdT.mono {w : World} {B B' : Nat} {A : Option Addr} {l : List Ft} (h : RdT w B A l) (hB : B ≤ B') : RdT w B' A l := by
 obtain ⟨b, h1, h2⟩ := h
 exact ⟨b, fun h0 => ⟨(h1 h0).1, by have := (h1 h0).2; omega⟩, h2⟩
theorem rdT_own {w : World} {base e n cap : Nat} {A : Option Addr} {L : List Ft} (h : w.ownsRow base e 3 (.slice A n cap) n (rowT L)) : RdT w w.heap.size A L := by
 have hn : L.length = n := by have := h.1; rw [rowT_length] at this; omega
 by_cases h0 : L.length = 0
 ·exact ⟨0, fun h => by omega, fun j hj => by omega⟩
 ·obtain ⟨g, c, hv, _, hlt⟩ := h.form (by omega)
  injection hv with hA
  subst hA
  refine ⟨g, fun _ => ⟨rfl, hlt⟩, fun j hj => ?_⟩
  obtain ⟨h1, h2, h3⟩ := rowT_at L j _ (List.getElem?_eq_getElem hj)
  have c1 := h.cells (g := g) rfl _ _ h1
  have c2 := h.cells (g := g) rfl _ _ h2
  have c3 := h.cells (g := g) rfl _ _ h3
  rw [Base.add_plain] at c1 c2 c3
  exact ⟨c1, c2, c3⟩
end Go.Proofs.YtmenmepdmojnfaaGreatDoor.Wg

namespace Go.Proofs.YtmenmepdmojnfaaGreatDoor.Wg
set_option linter.unusedVariables false
set_option linter.unusedSimpArgs false
set_option maxRecDepth 100000
open Go.RowKit Go.Proofs.YtmenmepdmojnfaaGreatDoor.Cell Go.Proofs.YtmenmepdmojnfaaGreatDoor.Dms Go.Proofs.YtmenmepdmojnfaaGreatDoor.Til Go.Proofs.YtmenmepdmojnfaaGreatDoor.Dss Go.Joins
open Go.Proofs.YtmenmepdmojnfaaGreatDoor.Sam (sameD iSame)
open Go.Proofs.YtmenmepdmojnfaaGreatDoor.Lst (listR idxR idx_at idx_end)

def Bx (W : World) (q : Nat) (v : Value) : Prop := q < W.heap.size ∧ W.cell? ⟨q, 0, none⟩ = some v
theorem Bx.on {W W' : World} {q : Nat} {v : Value} (h : Bx W q v) (hb : Below W.heap.size W W') : Bx W' q v := ⟨Nat.lt_of_lt_of_le h.1 hb.size, (hb.cell (p := ⟨q, 0, none⟩) h.1).trans h.2⟩
theorem Bx.new (W : World) (v : Value) (t : TypeId) : Bx (W.alloc (.cells #[v] t)) W.heap.size v := ⟨by simp, by
 unfold World.cell?
 rw [show (W.alloc (.cells #[v] t)).heap[(⟨W.heap.size, 0, none⟩ : Addr).block]? = some (.cells #[v] t) from heap_alloc_new W _]; rfl⟩
theorem rowSS_up {w : World} {B B' : Nat} {A : Option Addr} {m h : Nat} {T : List (List Dm)} (k : RowSS w B A m h T) (hB : B ≤ B') : RowSS w B' A m h T := by
 obtain ⟨b, S, s1, s2, s3⟩ := k
 exact ⟨b, S, s1, fun h0 => ⟨(s2 h0).1, Nat.lt_of_lt_of_le (s2 h0).2 hB⟩, fun i s x hs hx => ⟨(s3 i s x hs hx).1, (s3 i s x hs hx).2.mono hB⟩⟩
set_option maxHeartbeats 1000000 in
theorem iFind1 (W : World) (q : Nat) (A : Option Addr) (n c B : Nat) (L : List Dm) (hL : L.length = n) (hn : (n : Int) ≤ 9223372036854775807) (h : RowM W B A L) (hB : B ≤ W.heap.size)
  (A' : Option Addr) (n' c' B' : Nat) (M : List Dm) (hM : M.length = n') (hn' : (n' : Int) ≤ 9223372036854775807) (h' : RowM W B' A' M) (hB' : B' ≤ W.heap.size) (hq : Bx W q (.slice A' n' c')) :
  Calls Tryz.prog 65 #[.slice A n c, .pointer (some ⟨q, 0, none⟩)] W (Bol (sameD L M) W) := by
 have HS := Lib.hid (iSame W A A' n n' c c' B B' L M hL hM hn hn' h h' hB hB')
 have cq := hq.2
 generalize sameD L M = r at HS ⊢
 clear hL hn h hB hM hn' h' hB' hq
 go_enter Tryz.func65, Tryz.ntmps65
 go_wp2_with fail
 refine HS.out.mono ?_
 rintro e w1 ⟨rfl, hb⟩
 go_wp2
 go_ret
 exact ⟨rfl, hb⟩
set_option maxHeartbeats 2000000 in
theorem iIdxT (w : World) (A : Option Addr) (m cap B h : Nat) (T : List (List Dm)) (hT : T.length = m) (hm : m ≤ 300) (hh : h ≤ 32) (hall : ∀ L ∈ T, L.length = h) (hr : RowSS w B A m h T) (hB : B ≤ w.heap.size)
  (q : Nat) (A' : Option Addr) (n' c' B' : Nat) (M : List Dm) (hM : M.length = n') (hn' : (n' : Int) ≤ 9223372036854775807) (h' : RowM w B' A' M) (hB' : B' ≤ w.heap.size) (hq : Bx w q (.slice A' n' c')) :
  Calls Tryz.prog 64 #[.slice A m cap, .func (.func 65) #[] #[.pointer (some ⟨q, 0, none⟩)]] w (Num (idxR T M) w) := by
 have HSm := Lib.hid (fun (W : World) (k : Nat) (hk : k < T.length) (a : Option Addr) (c : Nat) (hr : RowM W B a T[k]) (hb : Below w.heap.size w W) => iFind1 W q a h c B T[k] (hall _ (List.getElem_mem hk)) (by omega) hr (by have := hb.size; omega) A' n' c' B' M hM hn' (h'.below hb hB') (by have := hb.size; omega) (hq.on hb))
 have HEnd := Lib.hid (fun hd => idx_end (T := T) (L := M) hd)
 have HAt := Lib.hid (fun k hk hd he => idx_at (T := T) (L := M) (k := k) hk hd he)
 have HM := Lib.hid hT
 obtain ⟨b, S, s1, s2, s3⟩ := hr
 have H1 := Lib.hid s1
 have H2 := Lib.hid s2
 have H3 := Lib.hid s3
 have HB := Lib.hid hB
 generalize idxR T M = r at HEnd HAt ⊢
 clear hT hall hB hM hn' h' hB' hq s1 s2 s3
 go_enter Tryz.func64, Tryz.ntmps64
 go_wp2_with fail
 go_loopw [5, 8] (fun _ i wr => ∃ k : Nat, k ≤ m ∧ i = .int .i64 k ∧ Below w.heap.size w wr ∧ Hid (∀ j (hj : j < T.length), j < k → T[j] ≠ M)) (fun _ i _ => m - (intOf i).toNat)
 case atStart => exact ⟨0, Nat.zero_le _, rfl, Below.refl _ _, Lib.hid (fun j _ h => by omega)⟩
 case round =>
  obtain ⟨k, hk, rfl, hb, hne⟩ := hrel
  by_cases hlt : k < m
  ·have hkT : k < T.length := by rw [HM.out]; exact hlt
   obtain ⟨rfl, hbl⟩ := H2.out (by omega)
   have hkS : k < S.length := by rw [H1.out]; exact hkT
   obtain ⟨c1, c2⟩ := H3.out k S[k] T[k] (List.getElem?_eq_getElem hkS) (List.getElem?_eq_getElem hkT)
   have c1' := (hb.cell (p := ⟨b, k, none⟩) (by show b < _; have := HB.out; omega)).trans c1
   have HSk := Lib.hid (HSm.out wr k hkT S[k].1 S[k].2 (c2.below hb HB.out) hb)
   have HAk := Lib.hid (fun he => HAt.out k hkT hne.out he)
   have HNk := Lib.hid (show T[k] ≠ M → Hid (∀ j (hj : j < T.length), j < k + 1 → T[j] ≠ M) from fun hh => Lib.hid (fun j hj h => by
    by_cases q : j = k
    ·subst q; exact hh
    ·exact hne.out j hj (by omega)))
   generalize S[k].1 = a at c1' HSk
   generalize S[k].2 = c at c1' HSk
   clear c1 c2 hkS
   obtain ⟨p, hp⟩ : ∃ p, p = sameD T[k] M := ⟨_, rfl⟩
   rw [← hp] at HSk
   have HQ := Lib.hid hp
   have HBw := Lib.hid hb
   have hkn : (k : Int) < (m : Int) := by omega
   clear hp hne hb
   go_wp2_with fail
   refine HSk.out.mono ?_
   rintro e w2 ⟨rfl, hb2⟩
   have hb3 := HBw.out.trans (hb2.mono HBw.out.size)
   clear HSk hb2 c1'
   cases p with
   | true =>
    have hr := HAk.out (by have := HQ.out; unfold sameD at this; exact of_decide_eq_true this.symm)
    have HR2 := Lib.hid hr
    clear hr HAk HNk
    go_wp2
    go_ret
    exact mkNum HR2.out.symm hb3
   | false =>
    have hn2 := HNk.out (by have := HQ.out; unfold sameD at this; exact of_decide_eq_false this.symm)
    clear HAk HNk HQ
    go_wp2
    go_roundw
    case rel => exact ⟨k + 1, by omega, by go_num, hb3, hn2⟩
    case measure => (simp [intOf] <;> omega)
  ·obtain rfl : k = m := by omega
   have hr := HEnd.out (fun j hj => hne.out j hj (by have := HM.out; omega))
   have HR2 := Lib.hid hr
   clear hr
   go_wp2
   go_ret
   exact mkNum HR2.out.symm hb
set_option maxHeartbeats 1000000 in
theorem iFind (w : World) (A : Option Addr) (m cap B h : Nat) (T : List (List Dm)) (hT : T.length = m) (hm : m ≤ 300) (hh : h ≤ 32) (hall : ∀ L ∈ T, L.length = h) (hr : RowSS w B A m h T) (hB : B ≤ w.heap.size)
  (A' : Option Addr) (n' c' B' : Nat) (M : List Dm) (hM : M.length = n') (hn' : (n' : Int) ≤ 9223372036854775807) (h' : RowM w B' A' M) (hB' : B' ≤ w.heap.size) :
  Calls Tryz.prog 41 #[.slice A m cap, .slice A' n' c'] w (Num (idxR T M) w) := by
 have HS := Lib.hid (below_alloc1 w (.cells #[.slice A' n' c'] 27))
 have HC := Lib.hid (iIdxT (w.alloc (.cells #[.slice A' n' c'] 27)) A m cap B h T hT hm hh hall (hr.below hT HS.out hB) (by simp; omega) w.heap.size A' n' c' B' M hM hn' (h'.below HS.out hB') (by simp; omega) (Bx.new w _ _))
 generalize idxR T M = r at HC ⊢
 clear hT hall hr hB hM hn' h' hB'
 go_enter Tryz.func41, Tryz.ntmps41
 go_wp2_with fail
 refine HC.out.mono ?_
 rintro e w1 ⟨rfl, hb1⟩
 have hb := HS.out.trans (hb1.mono HS.out.size)
 go_wp2
 go_ret
 exact ⟨rfl, hb⟩
end Go.Proofs.YtmenmepdmojnfaaGreatDoor.Wg

namespace Go.Proofs.YtmenmepdmojnfaaGreatDoor.Flp
set_option linter.unusedVariables false
set_option linter.unusedSimpArgs false
set_option maxRecDepth 100000
open Go.RowKit Go.Proofs.YtmenmepdmojnfaaGreatDoor.Cell Go.Proofs.YtmenmepdmojnfaaGreatDoor.Dom Go.Proofs.YtmenmepdmojnfaaGreatDoor.Dms Go.Joins

set_option maxHeartbeats 2000000 in
theorem iIndex (w : World) (A : Option Addr) (n cap B : Nat) (L : List Dm) (hL : L.length = n) (hn : (n : Int) ≤ 9223372036854775807) (h : RowM w B A L) (hB : B ≤ w.heap.size) (d : Dm) :
  Calls Tryz.prog 139 #[.slice A n cap, dmV d] w (HasP L d w) := by
 obtain ⟨b, off, hA, hc⟩ := h.at
 have HA := Lib.hid hA
 have HC := Lib.hid hc
 have HL := Lib.hid hL
 have T0 := Lib.hid (db_start d w)
 obtain ⟨x, y, c⟩ := d
 clear hA hc hL h
 go_enter Tryz.func139, Tryz.ntmps139
 go_wp2_with fail
 go_loopw [5, 8] (fun _ i wr => ∃ k : Nat, k ≤ n ∧ i = .int .i64 k ∧ DB w (x, y, c) wr ∧ Hid ((x, y, c) ∉ L.take k)) (fun _ i _ => n - (intOf i).toNat)
 case atStart => exact ⟨0, Nat.zero_le _, rfl, T0.out, Lib.hid (by simp)⟩
 case round =>
  clear T0
  obtain ⟨k, hk, rfl, hK, HN⟩ := hrel
  by_cases hlt : k < n
  ·have hkL : k < L.length := by rw [HL.out]; exact hlt
   obtain ⟨rfl, hbB⟩ := HA.out (by omega)
   obtain ⟨e0, e1, e2⟩ := HC.out k hkL
   have d0 := (hK.1.cell (p := ⟨b, off + k * 3, none⟩) (by show b < _; omega)).trans e0
   have d1 := (hK.1.cell (p := ⟨b, off + k * 3 + 1, none⟩) (by show b < _; omega)).trans e1
   have d2 := (hK.1.cell (p := ⟨b, off + k * 3 + 2, none⟩) (by show b < _; omega)).trans e2
   have c0 := At3.c0 hK.2
   have c1 := At3.c1 hK.2
   have c2 := At3.c2 hK.2
   have HX := Lib.hid (fun hne => take_no hkL HN.out hne)
   have HIn := Lib.hid (fun (he : L[k] = (x, y, c)) => show (x, y, c) ∈ L from he ▸ List.getElem_mem hkL)
   generalize L[k] = p at d0 d1 d2 HX HIn
   obtain ⟨u, v, a⟩ := p
   simp only at d0 d1 d2 c0 c1 c2
   have HK := Lib.hid hK
   clear e0 e1 e2 HN hK
   by_cases q : u = x ∧ v = y ∧ a = c
   ·obtain ⟨rfl, rfl, rfl⟩ := q
    have HI := Lib.hid (HIn.out rfl)
    clear HX HIn
    have huu : (u == u) = true := by simp
    have hvv : (v == v) = true := by simp
    have haa : (a == a) = true := by simp
    go_wp2_with fail
    go_quiet (fail)
    go_wp2
    go_ret
    exact mkHas (by rw [decide_eq_true HI.out]; exact decide_eq_true (by omega)) (drewBelow HK.out.1 _)
   ·have HY := Lib.hid (HX.out (fun e => by injection e with e1 e2; injection e2 with e2 e3; exact q ⟨e1, e2, e3⟩))
    clear HX HIn
    by_cases q1 : u = x
    ·subst q1
     have huu : (u == u) = true := by simp
     by_cases q2 : v = y
     ·subst q2
      have hvv : (v == v) = true := by simp
      have haf : (c == a) = false := by rw [beq_eq_false_iff_ne]; exact fun e => q ⟨rfl, rfl, e.symm⟩
      clear q
      go_wp2_with fail
      go_quiet (fail)
      go_wp2
      go_roundw
      case rel => exact ⟨k + 1, by omega, by go_num, HK.out.on (drewBelow (Below.refl _ _) _), HY⟩
      case measure => (simp [intOf] <;> omega)
     ·have hvf : (y == v) = false := by rw [beq_eq_false_iff_ne]; exact fun e => q2 e.symm
      clear q
      go_wp2_with fail
      go_quiet (fail)
      go_wp2
      go_roundw
      case rel => exact ⟨k + 1, by omega, by go_num, HK.out.on (drewBelow (Below.refl _ _) _), HY⟩
      case measure => (simp [intOf] <;> omega)
    ·have huf : (x == u) = false := by rw [beq_eq_false_iff_ne]; exact fun e => q1 e.symm
     clear q
     go_wp2_with fail
     go_quiet (fail)
     go_wp2
     go_roundw
     case rel => exact ⟨k + 1, by omega, by go_num, HK.out.on (drewBelow (Below.refl _ _) _), HY⟩
     case measure => (simp [intOf] <;> omega)
  ·obtain rfl : k = n := by omega
   have HF := Lib.hid (show (x, y, c) ∉ L from fun q => HN.out (by rw [← HL.out, List.take_length]; exact q))
   have HK := Lib.hid hK.1
   clear hK HN
   go_wp2
   go_ret
   exact mkHas (by rw [decide_eq_false HF.out]; exact decide_eq_false (by omega)) HK.out
theorem iContains (w : World) (A : Option Addr) (n cap B : Nat) (L : List Dm) (hL : L.length = n) (hn : (n : Int) ≤ 9223372036854775807) (h : RowM w B A L) (hB : B ≤ w.heap.size) (d : Dm) :
  Calls Tryz.prog 110 #[.slice A n cap, dmV d] w (Bol (decide (d ∈ L)) w) := by
 have T0 := Lib.hid (db_start d w)
 have HI := Lib.hid (fun W (hb : Below w.heap.size w W) => iIndex W A n cap B L hL hn (h.below hb hB) (by have := hb.size; omega) d)
 have HQ := Lib.hid (rfl : decide (d ∈ L) = decide (d ∈ L))
 clear hL hn h hB
 obtain ⟨x, y, c⟩ := d
 go_enter Tryz.func110, Tryz.ntmps110
 go_wp2_with fail
 refine (HI.out _ T0.out.1).mono ?_
 rintro e w1 ⟨r, rfl, hr, hb1⟩
 have HB := Lib.hid (T0.out.on hb1).1
 have HR := Lib.hid hr
 clear HI T0 hb1 hr
 go_wp2
 go_ret
 exact mkBol (by rw [← HR.out]) HB.out
end Go.Proofs.YtmenmepdmojnfaaGreatDoor.Flp

namespace Go.Proofs.YtmenmepdmojnfaaGreatDoor.Dom
set_option linter.unusedVariables false
set_option linter.unusedSimpArgs false
open Go.RowKit Go.Proofs.YtmenmepdmojnfaaGreatDoor.Cell Go.Joins

def sxW (x : Int) (b : Bool) : Int := if b then wrap64 (x + 0) else wrap64 (x + 1)
def syW (y : Int) (b : Bool) : Int := if b then wrap64 (y + 1) else wrap64 (y + 0)
theorem domW (x y : Int) (b : Bool) : domB x y b = (okB x y && okB (sxW x b) (syW y b)) := by
 unfold domB
 by_cases h : Ok x y
 ·have h' := h
  unfold Ok at h'
  have e0 : wrap64 (x + 0) = x := by unfold wrap64; omega
  have e1 : wrap64 (y + 0) = y := by unfold wrap64; omega
  cases b with
  | true => unfold sx sy sxW syW; rw [if_pos rfl, if_pos rfl, if_pos rfl, if_pos rfl, e0]
  | false => unfold sx sy sxW syW; rw [if_neg (by simp), if_neg (by simp), if_neg (by simp), if_neg (by simp), e1]
 ·rw [okB_not h]; rfl
set_option maxHeartbeats 400000 in
theorem iCellsW (x y : Int) (b : Bool) (w : World) :
  Calls Tryz.prog 94 #[.agg #[.int .i64 x, .int .i64 y, .bool b]] w (Cel2 x y (sxW x b) (syW y b) w) := by
 have F0 := Lib.hid (fun T => four_start (T := T) x y b w)
 cases b with
 | true =>
  have HM := Lib.hid (fun W => moved x y 0 1 W)
  have hE : sxW x true = wrap64 (x + 0) ∧ syW y true = wrap64 (y + 1) := ⟨rfl, rfl⟩
  generalize wrap64 (x + 0) = u at HM hE
  generalize wrap64 (y + 1) = v at HM hE
  rw [hE.1, hE.2]
  clear hE
  go_enter Tryz.func94, Tryz.ntmps94
  go_wp2_with fail
  have F1 := F0.out 73
  generalize World.alloc _ (.cells #[.int .i64 x, .int .i64 y] 67) = W at F1 ⊢
  clear F0
  refine wp_region_noPanic ?_
  refine wp_region_held_drew (S := (fun w' => w'.cell? ⟨w.heap.size + 1 + 1 + 1, 0, none⟩ = some (.int .i64 x) ∧ w'.cell? ⟨w.heap.size + 1 + 1 + 1, 1, none⟩ = some (.int .i64 y))) (by kernel_rfl) (⟨F1.drew.2.2.2.c0, F1.drew.2.2.2.c1⟩) (fun hHeld => ?_)
  refine wpAnyH_take (i := 0) (v := ?_) rfl (by kernel_rfl) (by kernel_rfl) (by kernel_rfl) (fun _ _ _ h => h) (Or.inl ⟨by rfl, ?_⟩) (by assumption) ?_
  rotate_left
  ·(intro w' hS; (try dsimp only at hS); go_simp; try with_reducible rfl)
  try simp only [Act.put, List.getElem_toArray, List.getElem_cons_succ, List.getElem_cons_zero, List.setIfInBounds_toArray, List.set_cons_zero, List.set_cons_succ]
  refine wpAnyH_take (i := 1) (v := ?_) rfl (by kernel_rfl) (by kernel_rfl) (by kernel_rfl) (fun _ _ _ h => h) (Or.inl ⟨by rfl, ?_⟩) (by assumption) ?_
  rotate_left
  ·(intro w' hS; (try dsimp only at hS); go_simp; try with_reducible rfl)
  try simp only [Act.put, List.getElem_toArray, List.getElem_cons_succ, List.getElem_cons_zero, List.setIfInBounds_toArray, List.set_cons_zero, List.set_cons_succ]
  refine wpAnyH_ready (rs := [2]) (by kernel_rfl) (by simp) ?_
  refine AllReadyH.cons rfl (fun K hK => ?_) AllReadyH.nil
  go_simp
  refine (HM.out _).mono ?_
  rintro e wx ⟨rfl, hbx⟩
  have F2 := F1.drew.on hbx
  clear F1 hbx hHeld
  go_wp2_with fail
  refine hK.out _ _ (⟨F2.2.2.2.c0, F2.2.2.2.c1⟩) (fun hHeld => ?_)
  clear hK K
  try simp only [Act.put, List.getElem_toArray, List.getElem_cons_succ, List.getElem_cons_zero, List.setIfInBounds_toArray, List.set_cons_zero, List.set_cons_succ]
  refine wpAnyH_ready (rs := [3]) (by kernel_rfl) (by simp) ?_
  refine AllReadyH.cons rfl (fun K hK => ?_) AllReadyH.nil
  have d0 := F2.2.1.c0
  have d1 := F2.2.1.c1
  have d2 := F2.2.1.f0
  have d3 := F2.2.1.f1
  have F3 := F2.put1 x y
  clear F2
  go_simp
  refine hK.out _ _ (⟨F3.2.2.2.c0, F3.2.2.2.c1⟩) (fun hHeld => ?_)
  clear hK K
  try simp only [Act.put, List.getElem_toArray, List.getElem_cons_succ, List.getElem_cons_zero, List.setIfInBounds_toArray, List.set_cons_zero, List.set_cons_succ]
  refine wpAnyH_ready (rs := [4]) (by kernel_rfl) (by simp) ?_
  refine AllReadyH.cons rfl (fun K hK => ?_) AllReadyH.nil
  have d0 := F3.2.2.1.c0
  have d1 := F3.2.2.1.c1
  have d2 := F3.2.2.1.f0
  have d3 := F3.2.2.1.f1
  have F4 := F3.put2 u v
  clear F3
  go_simp
  refine hK.out _ _ (⟨F4.2.2.2.c0, F4.2.2.2.c1⟩) (fun hHeld => ?_)
  clear hK K
  try simp only [Act.put, List.getElem_toArray, List.getElem_cons_succ, List.getElem_cons_zero, List.setIfInBounds_toArray, List.set_cons_zero, List.set_cons_succ]
  refine wpAnyH_done (by kernel_rfl) ?_ _
  refine NoPanic.normal ?_
  generalize World.setCell _ _ _ = W4 at F4 ⊢
  have c0 := F4.2.1.c0
  have c1 := F4.2.1.c1
  have c2 := F4.2.2.1.c0
  have c3 := F4.2.2.1.c1
  go_wp2
  refine bodyPost_ret (v := .tuple #[.agg #[.int .i64 x, .int .i64 y], .agg #[.int .i64 u, .int .i64 v]]) ?_ rfl (mkCel2 rfl rfl rfl rfl F4.1)
  simp [results, Tryz.results94, go_sem, c0, c1, c2, c3]
 | false =>
  have HM := Lib.hid (fun W => moved x y 1 0 W)
  have hE : sxW x false = wrap64 (x + 1) ∧ syW y false = wrap64 (y + 0) := ⟨rfl, rfl⟩
  generalize wrap64 (x + 1) = u at HM hE
  generalize wrap64 (y + 0) = v at HM hE
  rw [hE.1, hE.2]
  clear hE
  go_enter Tryz.func94, Tryz.ntmps94
  go_wp2_with fail
  have F1 := F0.out 73
  generalize World.alloc _ (.cells #[.int .i64 x, .int .i64 y] 67) = W at F1 ⊢
  clear F0
  refine wp_region_noPanic ?_
  refine wp_region_held_drew (S := (fun w' => w'.cell? ⟨w.heap.size + 1 + 1 + 1, 0, none⟩ = some (.int .i64 x) ∧ w'.cell? ⟨w.heap.size + 1 + 1 + 1, 1, none⟩ = some (.int .i64 y))) (by kernel_rfl) (⟨F1.drew.2.2.2.c0, F1.drew.2.2.2.c1⟩) (fun hHeld => ?_)
  refine wpAnyH_take (i := 0) (v := ?_) rfl (by kernel_rfl) (by kernel_rfl) (by kernel_rfl) (fun _ _ _ h => h) (Or.inl ⟨by rfl, ?_⟩) (by assumption) ?_
  rotate_left
  ·(intro w' hS; (try dsimp only at hS); go_simp; try with_reducible rfl)
  try simp only [Act.put, List.getElem_toArray, List.getElem_cons_succ, List.getElem_cons_zero, List.setIfInBounds_toArray, List.set_cons_zero, List.set_cons_succ]
  refine wpAnyH_take (i := 1) (v := ?_) rfl (by kernel_rfl) (by kernel_rfl) (by kernel_rfl) (fun _ _ _ h => h) (Or.inl ⟨by rfl, ?_⟩) (by assumption) ?_
  rotate_left
  ·(intro w' hS; (try dsimp only at hS); go_simp; try with_reducible rfl)
  try simp only [Act.put, List.getElem_toArray, List.getElem_cons_succ, List.getElem_cons_zero, List.setIfInBounds_toArray, List.set_cons_zero, List.set_cons_succ]
  refine wpAnyH_ready (rs := [2]) (by kernel_rfl) (by simp) ?_
  refine AllReadyH.cons rfl (fun K hK => ?_) AllReadyH.nil
  go_simp
  refine (HM.out _).mono ?_
  rintro e wx ⟨rfl, hbx⟩
  have F2 := F1.drew.on hbx
  clear F1 hbx hHeld
  go_wp2_with fail
  refine hK.out _ _ (⟨F2.2.2.2.c0, F2.2.2.2.c1⟩) (fun hHeld => ?_)
  clear hK K
  try simp only [Act.put, List.getElem_toArray, List.getElem_cons_succ, List.getElem_cons_zero, List.setIfInBounds_toArray, List.set_cons_zero, List.set_cons_succ]
  refine wpAnyH_ready (rs := [3]) (by kernel_rfl) (by simp) ?_
  refine AllReadyH.cons rfl (fun K hK => ?_) AllReadyH.nil
  have d0 := F2.2.1.c0
  have d1 := F2.2.1.c1
  have d2 := F2.2.1.f0
  have d3 := F2.2.1.f1
  have F3 := F2.put1 x y
  clear F2
  go_simp
  refine hK.out _ _ (⟨F3.2.2.2.c0, F3.2.2.2.c1⟩) (fun hHeld => ?_)
  clear hK K
  try simp only [Act.put, List.getElem_toArray, List.getElem_cons_succ, List.getElem_cons_zero, List.setIfInBounds_toArray, List.set_cons_zero, List.set_cons_succ]
  refine wpAnyH_ready (rs := [4]) (by kernel_rfl) (by simp) ?_
  refine AllReadyH.cons rfl (fun K hK => ?_) AllReadyH.nil
  have d0 := F3.2.2.1.c0
  have d1 := F3.2.2.1.c1
  have d2 := F3.2.2.1.f0
  have d3 := F3.2.2.1.f1
  have F4 := F3.put2 u v
  clear F3
  go_simp
  refine hK.out _ _ (⟨F4.2.2.2.c0, F4.2.2.2.c1⟩) (fun hHeld => ?_)
  clear hK K
  try simp only [Act.put, List.getElem_toArray, List.getElem_cons_succ, List.getElem_cons_zero, List.setIfInBounds_toArray, List.set_cons_zero, List.set_cons_succ]
  refine wpAnyH_done (by kernel_rfl) ?_ _
  refine NoPanic.normal ?_
  generalize World.setCell _ _ _ = W4 at F4 ⊢
  have c0 := F4.2.1.c0
  have c1 := F4.2.1.c1
  have c2 := F4.2.2.1.c0
  have c3 := F4.2.2.1.c1
  go_wp2
  refine bodyPost_ret (v := .tuple #[.agg #[.int .i64 x, .int .i64 y], .agg #[.int .i64 u, .int .i64 v]]) ?_ rfl (mkCel2 rfl rfl rfl rfl F4.1)
  simp [results, Tryz.results94, go_sem, c0, c1, c2, c3]
set_option maxHeartbeats 400000 in
theorem iDominoOkW (x y : Int) (b : Bool) (w : World) :
  Calls Tryz.prog 149 #[.agg #[.int .i64 x, .int .i64 y, .bool b]] w (Bol (domB x y b) w) := by
 have HC := Lib.hid (fun W => iCellsW x y b W)
 have HV1 := Lib.hid (fun W => isValid x y W)
 have HD := Lib.hid (show domB x y b = (okB x y && okB (sxW x b) (syW y b)) from domW x y b)
 generalize sxW x b = u at HC HD
 generalize syW y b = v at HC HD
 have HV2 := Lib.hid (fun W => isValid u v W)
 generalize okB x y = p at HV1 HD
 generalize okB u v = q at HV2 HD
 generalize domB x y b = d at HD ⊢
 go_enter Tryz.func149, Tryz.ntmps149
 go_wp2_with fail
 refine (HC.out _).mono ?_
 rintro e w1 ⟨rfl, hb1⟩
 have hb := (below_alloc1 w (.cells #[.int .i64 x, .int .i64 y, .bool b] 73)).trans (hb1.mono (by simp))
 clear hb1 HC
 go_wp2_with fail
 refine (HV1.out _).mono ?_
 rintro e w2 ⟨rfl, hb2⟩
 obtain ⟨k1, k2, k3⟩ := at2_two w1 x y u v
 have hB := hb.trans ((k3.trans (hb2.mono k3.size)).mono hb.size)
 have K2 := k2.on hb2
 have c0 := K2.c0
 have c1 := K2.c1
 clear k1 k2 k3 hb hb2 K2 HV1
 cases p with
 | false =>
  go_wp2
  go_ret
  exact mkBol (by rw [HD.out]; rfl) hB
 | true =>
  go_wp2_with fail
  refine (HV2.out _).mono ?_
  rintro e w3 ⟨rfl, hb3⟩
  go_wp2
  go_ret
  exact mkBol (by rw [HD.out]; rfl) (hB.trans (hb3.mono hB.size))
end Go.Proofs.YtmenmepdmojnfaaGreatDoor.Dom
