/- Nea, IWw in one text. -/
import Derived.Test.YtmenmepdmojnfaaGreatDoorMw31
import Derived.Test.YtmenmepdmojnfaaGreatDoorMw32

namespace Go.Proofs.YtmenmepdmojnfaaGreatDoor.Wg
set_option linter.unusedVariables false
set_option linter.unusedSimpArgs false
set_option maxRecDepth 100000
open Go.RowKit Go.Proofs.YtmenmepdmojnfaaGreatDoor.Cell Go.Proofs.YtmenmepdmojnfaaGreatDoor.Dom Go.Proofs.YtmenmepdmojnfaaGreatDoor.Dms Go.Proofs.YtmenmepdmojnfaaGreatDoor.Dss Go.Proofs.YtmenmepdmojnfaaGreatDoor.Flp Go.Joins

theorem find_same {α : Type} {P Q : α → Bool} : ∀ {l : List α}, (∀ x ∈ l, P x = Q x) → l.find? P = l.find? Q
 | [], _ => rfl
 | x :: l, h => by
  rw [List.find?_cons, List.find?_cons, h x List.mem_cons_self, find_same (fun y hy => h y (List.mem_cons_of_mem _ hy))]
theorem find_at {α : Type} {P : α → Bool} : ∀ {l : List α} {k : Nat} (hk : k < l.length), (∀ j (hj : j < l.length), j < k → P l[j] = false) → P l[k] = true → l.find? P = some l[k]
 | x :: l, 0, _, _, h => by rw [List.find?_cons]; simp at h; rw [h]; rfl
 | x :: l, k + 1, hk, h, h2 => by
  have h0 : P x = false := h 0 (by simp) (by omega)
  rw [List.find?_cons, h0]
  simp only [List.getElem_cons_succ] at h2 ⊢
  exact find_at (l := l) (by simpa using hk) (fun j hj hjk => by have := h (j + 1) (by simp; omega) (by omega); simpa using this) h2
def nearF (l : List Ft) (D : Nat → Int) (d : Int) : Option Ft := l.find? fun p => decide (D p.2 < d)
theorem near_step {T : List (List Dm)} (hg : Gd T) {D : Nat → Int} {j : Nat} (hD : ∀ v, IsD (Ed (lnk T)) j v (D v)) {i n : Nat} (hi : i < T.length) (h : D i = ((n + 1 : Nat) : Int)) :
  ∃ p, nearF (fts T T[i]) D (D i) = some p ∧ p.2 < T.length ∧ D p.2 = (n : Int) ∧ wayG T D (n + 1) i = p.1 :: wayG T D n p.2 := by
 have hio := hD i
 rw [h] at hio
 have hP : ∀ c ∈ flipsR T[i], decide (D (idx T (flipL T[i] c.1 c.2)) < D i) = decide (D (idx T (flipL T[i] c.1 c.2)) = (n : Int)) := fun c hc => by
  obtain ⟨v, hv⟩ : ∃ v, idx T (flipL T[i] c.1 c.2) = v := ⟨_, rfl⟩
  have he : Ed (lnk T) i v := by
   unfold Ed
   rw [hg.lk i hi]
   exact List.mem_map.2 ⟨(c, idx T (flipL T[i] c.1 c.2)), List.mem_map.2 ⟨c, hc, rfl⟩, hv⟩
  rw [hv, h]
  have h2 := hg.sy _ _ he
  rcases hio with ⟨k, ek, pk, lk⟩ | ⟨ek, _⟩
  ·obtain rfl : k = n + 1 := by omega
   rcases hD v with ⟨k2, e2, p2, l2⟩ | ⟨e2, no⟩
   ·have h3 := lk _ (Pth.step p2 h2)
    rw [Bool.eq_iff_iff, decide_eq_true_eq, decide_eq_true_eq, e2]
    omega
   ·exact absurd (Pth.step pk he) (no _)
  ·omega
 have hex : ∃ c ∈ flipsR T[i], D (idx T (flipL T[i] c.1 c.2)) = (n : Int) := by
  obtain ⟨a, ea, ha⟩ := isD_step (isD_rev hg.sy hio)
  have hm : a ∈ lnk T i := ea
  rw [hg.lk i hi] at hm
  obtain ⟨p, hp, rfl⟩ := List.mem_map.1 hm
  obtain ⟨c, hc, rfl⟩ := List.mem_map.1 hp
  exact ⟨c, hc, isD_uniq (hD _) (isD_rev hg.sy ha)⟩
 have hfm : nearF (fts T T[i]) D (D i) = ((flipsR T[i]).find? fun c => decide (D (idx T (flipL T[i] c.1 c.2)) = (n : Int))).map fun c => (c, idx T (flipL T[i] c.1 c.2)) := by
  unfold nearF fts
  rw [List.find?_map]
  congr 1
  exact find_same fun c hc => hP c hc
 cases hf : (flipsR T[i]).find? fun c => decide (D (idx T (flipL T[i] c.1 c.2)) = (n : Int)) with
 | none =>
  obtain ⟨c, hc, e⟩ := hex
  have := List.find?_eq_none.1 hf c hc
  simp [e] at this
 | some c =>
  have hc := List.mem_of_find?_eq_some hf
  have hp0 := List.find?_some hf
  have hp := of_decide_eq_true hp0
  refine ⟨(c, idx T (flipL T[i] c.1 c.2)), by rw [hfm, hf]; rfl, (hg.idx hi hc).1, hp, ?_⟩
  show (match (flipsR (T.getD i [])).find? fun c => decide (D (idx T (flipL (T.getD i []) c.1 c.2)) = (n : Int)) with
   | some c => c :: wayG T D n (idx T (flipL (T.getD i []) c.1 c.2))
   | none => []) = _
  rw [getD_at hi, hf]
def RdI (W : World) (bl m : Nat) (D : Nat → Int) : Prop := bl < W.heap.size ∧ ∀ v, v < m → W.cell? ⟨bl, v, none⟩ = some (.int .i64 (D v))
theorem RdI.on {W W' : World} {bl m : Nat} {D : Nat → Int} (h : RdI W bl m D) (hb : Below W.heap.size W W') : RdI W' bl m D := ⟨Nat.lt_of_lt_of_le h.1 hb.size, fun v hv => (hb.cell (p := ⟨bl, v, none⟩) h.1).trans (h.2 v hv)⟩
set_option maxHeartbeats 1000000 in
theorem iNear1 (W : World) (q5 q4 bl m u v : Nat) (x y : Int) (D : Nat → Int) (hm : m ≤ 300) (hu : u < m) (hv : v < m) (h5 : Bx W q5 (.slice (some ⟨bl, 0, none⟩) m m)) (h4 : Bx W q4 (.int .i64 (u : Int))) (hr : RdI W bl m D) :
  Calls Tryz.prog 69 #[.agg #[.int .i64 x, .int .i64 y, .int .i64 (v : Int)], .pointer (some ⟨q5, 0, none⟩), .pointer (some ⟨q4, 0, none⟩)] W (Bol (decide (D v < D u)) W) := by
 have hb := below_alloc1 W (.cells #[.int .i64 x, .int .i64 y, .int .i64 (v : Int)] 69)
 have HB := Lib.hid hb
 have k5 := (h5.on hb).2
 have k4 := (h4.on hb).2
 have kv := (hr.on hb).2 v hv
 have ku := (hr.on hb).2 u hu
 have kb := At3I.c2 (At3I.new W x y (v : Int))
 have huI : (u : Int) < (m : Int) := by omega
 have hvI : (v : Int) < (m : Int) := by omega
 generalize D v = dv at kv ⊢
 generalize D u = du at ku ⊢
 clear hb h5 h4 hr hu hv
 go_enter Tryz.func69, Tryz.ntmps69
 go_wp2_with fail
 generalize W.alloc (.cells #[.int .i64 x, .int .i64 y, .int .i64 (v : Int)] 69) = Wb at HB k5 k4 kv ku kb ⊢
 generalize W.heap.size = p at kb ⊢
 refine wp_region_noPanic ?_
 refine wp_region_held_drew (S := (fun w' => w'.cell? ⟨q5, 0, none⟩ = some (.slice (some ⟨bl, 0, none⟩) m m) ∧ w'.cell? ⟨q4, 0, none⟩ = some (.int .i64 (u : Int)) ∧ w'.cell? ⟨bl, v, none⟩ = some (.int .i64 dv) ∧ w'.cell? ⟨bl, u, none⟩ = some (.int .i64 du) ∧ w'.cell? ⟨p, 2, none⟩ = some (.int .i64 (v : Int)))) (by kernel_rfl) (⟨k5, k4, kv, ku, kb⟩) (fun hHeld => ?_)
 refine wpAnyH_take (i := 0) (v := ?_) rfl (by kernel_rfl) (by kernel_rfl) (by kernel_rfl) (fun _ _ _ h => h) (Or.inl ⟨by rfl, ?_⟩) (by assumption) ?_
 rotate_left
 ·(intro w' hS; (try dsimp only at hS); go_simp; try with_reducible rfl)
 try simp only [Act.put, List.getElem_toArray, List.getElem_cons_succ, List.getElem_cons_zero, List.setIfInBounds_toArray, List.set_cons_zero, List.set_cons_succ]
 refine wpAnyH_take (i := 1) (v := ?_) rfl (by kernel_rfl) (by kernel_rfl) (by kernel_rfl) (fun _ _ _ h => h) (Or.inl ⟨by rfl, ?_⟩) (by assumption) ?_
 rotate_left
 ·(intro w' hS; (try dsimp only at hS); go_simp; try with_reducible rfl)
 try simp only [Act.put, List.getElem_toArray, List.getElem_cons_succ, List.getElem_cons_zero, List.setIfInBounds_toArray, List.set_cons_zero, List.set_cons_succ]
 refine wpAnyH_take (i := 2) (v := ?_) rfl (by kernel_rfl) (by kernel_rfl) (by kernel_rfl) (fun _ _ _ h => h) (Or.inl ⟨by rfl, ?_⟩) (by assumption) ?_
 rotate_left
 ·(intro w' hS; (try dsimp only at hS); go_simp; try with_reducible rfl)
 try simp only [Act.put, List.getElem_toArray, List.getElem_cons_succ, List.getElem_cons_zero, List.setIfInBounds_toArray, List.set_cons_zero, List.set_cons_succ]
 refine wpAnyH_take (i := 3) (v := ?_) rfl (by kernel_rfl) (by kernel_rfl) (by kernel_rfl) (fun _ _ _ h => h) (Or.inl ⟨by rfl, ?_⟩) (by assumption) ?_
 rotate_left
 ·(intro w' hS; (try dsimp only at hS); go_simp; try with_reducible rfl)
 try simp only [Act.put, List.getElem_toArray, List.getElem_cons_succ, List.getElem_cons_zero, List.setIfInBounds_toArray, List.set_cons_zero, List.set_cons_succ]
 refine wpAnyH_take (i := 4) (v := ?_) rfl (by kernel_rfl) (by kernel_rfl) (by kernel_rfl) (fun _ _ _ h => h) (Or.inl ⟨by rfl, ?_⟩) (by assumption) ?_
 rotate_left
 ·(intro w' hS; (try dsimp only at hS); go_simp; try with_reducible rfl)
 try simp only [Act.put, List.getElem_toArray, List.getElem_cons_succ, List.getElem_cons_zero, List.setIfInBounds_toArray, List.set_cons_zero, List.set_cons_succ]
 refine wpAnyH_take (i := 5) (v := ?_) rfl (by kernel_rfl) (by kernel_rfl) (by kernel_rfl) (fun _ _ _ h => h) (Or.inl ⟨by rfl, ?_⟩) (by assumption) ?_
 rotate_left
 ·(intro w' hS; (try dsimp only at hS); go_simp; try with_reducible rfl)
 try simp only [Act.put, List.getElem_toArray, List.getElem_cons_succ, List.getElem_cons_zero, List.setIfInBounds_toArray, List.set_cons_zero, List.set_cons_succ]
 refine wpAnyH_take (i := 6) (v := ?_) rfl (by kernel_rfl) (by kernel_rfl) (by kernel_rfl) (fun _ _ _ h => h) (Or.inl ⟨by rfl, ?_⟩) (by assumption) ?_
 rotate_left
 ·(intro w' hS; (try dsimp only at hS); go_simp; try with_reducible rfl)
 try simp only [Act.put, List.getElem_toArray, List.getElem_cons_succ, List.getElem_cons_zero, List.setIfInBounds_toArray, List.set_cons_zero, List.set_cons_succ]
 refine wpAnyH_take (i := 7) (v := ?_) rfl (by kernel_rfl) (by kernel_rfl) (by kernel_rfl) (fun _ _ _ h => h) (Or.inl ⟨by rfl, ?_⟩) (by assumption) ?_
 rotate_left
 ·(intro w' hS; (try dsimp only at hS); go_simp; try with_reducible rfl)
 try simp only [Act.put, List.getElem_toArray, List.getElem_cons_succ, List.getElem_cons_zero, List.setIfInBounds_toArray, List.set_cons_zero, List.set_cons_succ]
 refine wpAnyH_take (i := 8) (v := ?_) rfl (by kernel_rfl) (by kernel_rfl) (by kernel_rfl) (fun _ _ _ h => h) (Or.inl ⟨by rfl, ?_⟩) (by assumption) ?_
 rotate_left
 ·(intro w' hS; (try dsimp only at hS); go_simp; try with_reducible rfl)
 try simp only [Act.put, List.getElem_toArray, List.getElem_cons_succ, List.getElem_cons_zero, List.setIfInBounds_toArray, List.set_cons_zero, List.set_cons_succ]
 refine wpAnyH_take (i := 9) (v := ?_) rfl (by kernel_rfl) (by kernel_rfl) (by kernel_rfl) (fun _ _ _ h => h) (Or.inl ⟨by rfl, ?_⟩) (by assumption) ?_
 rotate_left
 ·(intro w' hS; (try dsimp only at hS); go_simp; try with_reducible rfl)
 try simp only [Act.put, List.getElem_toArray, List.getElem_cons_succ, List.getElem_cons_zero, List.setIfInBounds_toArray, List.set_cons_zero, List.set_cons_succ]
 refine wpAnyH_take (i := 10) (v := ?_) rfl (by kernel_rfl) (by kernel_rfl) (by kernel_rfl) (fun _ _ _ h => h) (Or.inl ⟨by rfl, ?_⟩) (by assumption) ?_
 rotate_left
 ·(intro w' hS; (try dsimp only at hS); go_simp; try with_reducible rfl)
 try simp only [Act.put, List.getElem_toArray, List.getElem_cons_succ, List.getElem_cons_zero, List.setIfInBounds_toArray, List.set_cons_zero, List.set_cons_succ]
 refine wpAnyH_done (by kernel_rfl) ?_ _
 refine NoPanic.normal ?_
 clear hHeld k5 k4 kv ku kb
 have hb := HB.out.drew
 go_wp2
 go_ret
 exact ⟨rfl, hb⟩
def NeI (l : List Ft) (D : Nat → Int) (d : Int) (w : World) (e : Ending) (w' : World) : Prop := ∃ (k : Nat) (hk : k < l.length), e = .returned (.int .i64 k) ∧ nearF l D d = some l[k] ∧ Below w.heap.size w w'
set_option maxHeartbeats 2000000 in
theorem iIdxN (w : World) (A : Option Addr) (n cap B : Nat) (l : List Ft) (hl : l.length = n) (hn : n ≤ 20000) (hr : RdT w B A l) (hB : B ≤ w.heap.size) (q5 q4 bl m u : Nat) (D : Nat → Int) (hm : m ≤ 300) (hu : u < m) (hlt : ∀ p ∈ l, p.2 < m)
  (h5 : Bx w q5 (.slice (some ⟨bl, 0, none⟩) m m)) (h4 : Bx w q4 (.int .i64 (u : Int))) (hd : RdI w bl m D) (hex : ∃ p, nearF l D (D u) = some p) :
  Calls Tryz.prog 68 #[.slice A n cap, .func (.func 69) #[] #[.pointer (some ⟨q5, 0, none⟩), .pointer (some ⟨q4, 0, none⟩)]] w (NeI l D (D u) w) := by
 have HC := Lib.hid (fun W (hb : Below w.heap.size w W) x y v (hv : v < m) => iNear1 W q5 q4 bl m u v x y D hm hu hv (h5.on hb) (h4.on hb) (hd.on hb))
 have HX := Lib.hid hex
 have HL := Lib.hid hl
 have HT := Lib.hid hlt
 obtain ⟨gf, f1, f2⟩ := hr
 have HF1 := Lib.hid f1
 have HF2 := Lib.hid f2
 have HBB := Lib.hid hB
 generalize D u = du at HC HX ⊢
 clear hl hB hu hlt h5 h4 hd hex f1 f2
 go_enter Tryz.func68, Tryz.ntmps68
 go_wp2_with fail
 go_loopw [5, 8] (fun _ i wr => ∃ k : Nat, k ≤ n ∧ i = .int .i64 k ∧ Hid (Below w.heap.size w wr) ∧ Hid (∀ j (hj : j < l.length), j < k → decide (D l[j].2 < du) = false)) (fun _ i _ => n - (intOf i).toNat)
 case atStart => exact ⟨0, Nat.zero_le _, rfl, Lib.hid (Below.refl _ _), Lib.hid (fun j _ h => by omega)⟩
 case round =>
  obtain ⟨k, hk, rfl, HB, HN⟩ := hrel
  by_cases hlt : k < n
  ·have hkl : k < l.length := by rw [HL.out]; exact hlt
   obtain ⟨rfl, hgf⟩ := HF1.out (by omega)
   obtain ⟨d0, d1, d2⟩ := HF2.out k hkl
   have hgw : gf < w.heap.size := by have := HBB.out; omega
   have e0 := (HB.out.cell (p := ⟨gf, k * 3, none⟩) hgw).trans d0
   have e1 := (HB.out.cell (p := ⟨gf, k * 3 + 1, none⟩) hgw).trans d1
   have e2 := (HB.out.cell (p := ⟨gf, k * 3 + 2, none⟩) hgw).trans d2
   have hvm := HT.out _ (List.getElem_mem hkl)
   have HY := Lib.hid (show decide (D l[k].2 < du) = true → nearF l D du = some l[k] from fun h2 => find_at hkl (fun j hj hjk => HN.out j hj hjk) h2)
   have HZ := Lib.hid (show decide (D l[k].2 < du) = false → ∀ j (hj : j < l.length), j < k + 1 → decide (D l[j].2 < du) = false from fun h0 j hj hj1 => by
    by_cases e : j = k
    ·subst e; exact h0
    ·exact HN.out j hj (by omega))
   have HKl := Lib.hid hkl
   clear d0 d1 d2
   have HCk := Lib.hid (HC.out wr HB.out l[k].1.1 l[k].1.2 l[k].2 hvm)
   generalize decide (D l[k].2 < du) = r at HCk HY HZ
   generalize l[k].1.1 = x at HCk e0
   generalize l[k].1.2 = y at HCk e1
   generalize l[k].2 = v at HCk e2 hvm
   have hkn : (k : Int) < (n : Int) := by omega
   clear HN hgw hvm
   go_wp2_with fail
   refine HCk.out.mono ?_
   rintro e w1 ⟨rfl, hb1⟩
   have HB1 := Lib.hid (HB.out.trans (hb1.mono HB.out.size))
   clear hb1 HCk HB e0 e1 e2
   cases r with
   | true =>
    have HE := Lib.hid (HY.out rfl)
    go_wp2
    go_ret
    exact ⟨k, HKl.out, rfl, HE.out, HB1.out⟩
   | false =>
    have HE := Lib.hid (HZ.out rfl)
    go_wp2
    go_roundw
    case rel => exact ⟨k + 1, by omega, by go_num, HB1, HE⟩
    case measure => (simp [intOf] <;> omega)
  ·exfalso
   obtain ⟨p, hp⟩ := HX.out
   have h1 := List.mem_of_find?_eq_some hp
   have h2 := List.find?_some hp
   obtain ⟨j, hj, rfl⟩ := List.getElem_of_mem h1
   rw [HN.out j hj (by have := HL.out; omega)] at h2
   cases h2
theorem At3I.put {W : World} {p : Nat} {x y z a b c : Int} (h : At3I W p x y z) : At3I (((W.setCell ⟨p, 0, none⟩ (.int .i64 a)).setCell ⟨p, 1, none⟩ (.int .i64 b)).setCell ⟨p, 2, none⟩ (.int .i64 c)) p a b c := by
 have h' := h
 unfold At3I at h' ⊢
 obtain ⟨hp, he⟩ := Array.getElem?_eq_some_iff.1 h'
 simp [World.setCell, h', Array.getElem?_modify]
theorem At3I.froz {W : World} {p : Nat} {x y z : Int} (h : At3I W p x y z) (i : Nat) : W.frozen? ⟨p, i, none⟩ = false := by have h' := h; unfold At3I at h'; simp [World.frozen?, h']
theorem At3I.kept {W W' : World} {p base n size : Nat} {e : TypeId} {x y z : Int} {v : Value} {vs : List Value} (h : At3I W p x y z) (ho : W.ownsRow base e size v n vs) (he : e ≠ 69) (hg : W.grownBy W' v.ownBlock) : At3I W' p x y z :=
 (hg.block p h.lt (fun q => by
  rcases ho.2 with ⟨hv, _⟩ | ⟨g2, cap2, cur2, hv, _, hg2, _⟩
  ·rw [hv] at q; cases q
  ·rw [hv] at q
   injection q with q
   subst q
   have h2 := h
   unfold At3I at h2
   rw [hg2] at h2
   injection h2 with h2
   injection h2 with _ h2
   exact he h2)).trans h
structure N3 (w : World) (p : Nat) (vb : Value) (u x y z : Int) (W : World) : Prop where
 bel : Below w.heap.size w W
 b4 : Bx W p (.int .i64 u)
 b5 : Bx W (p + 1) vb
 b6 : At3I W (p + 1 + 1) x y z
theorem N3.on {w W W' : World} {p : Nat} {vb : Value} {u x y z : Int} (h : N3 w p vb u x y z W) (hb : Below W.heap.size W W') : N3 w p vb u x y z W' := ⟨h.bel.trans (hb.mono h.bel.size), h.b4.on hb, h.b5.on hb, h.b6.on hb⟩
theorem n3_start (w : World) (vb : Value) (u : Int) (t t' : TypeId) : N3 w w.heap.size vb u 0 0 0 (((w.alloc (.cells #[.int .i64 u] t)).alloc (.cells #[vb] t')).alloc (.cells #[.int .i64 0, .int .i64 0, .int .i64 0] 69)) := by
 have k1 := below_alloc1 w (.cells #[.int .i64 u] t)
 have k2 := below_alloc1 (w.alloc (.cells #[.int .i64 u] t)) (.cells #[vb] t')
 have k3 := below_alloc1 ((w.alloc (.cells #[.int .i64 u] t)).alloc (.cells #[vb] t')) (.cells #[.int .i64 0, .int .i64 0, .int .i64 0] 69)
 refine ⟨(k1.trans (k2.mono k1.size)).trans (k3.mono (Nat.le_trans k1.size k2.size)), ((Bx.new w _ _).on k2).on k3, ?_, ?_⟩
 ·have := (Bx.new (w.alloc (.cells #[.int .i64 u] t)) vb t').on k3
  simpa using this
 ·have := At3I.new ((w.alloc (.cells #[.int .i64 u] t)).alloc (.cells #[vb] t')) 0 0 0
  simpa using this
def NeP (l : List Ft) (D : Nat → Int) (d : Int) (w : World) (e : Ending) (w' : World) : Prop := ∃ (x y : Int) (v : Nat), e = .returned (.agg #[.int .i64 x, .int .i64 y, .int .i64 (v : Int)]) ∧ nearF l D d = some ((x, y), v) ∧ Below w.heap.size w w'
set_option maxHeartbeats 4000000 in
theorem iNearer (w : World) (A : Option Addr) (m cap B h : Nat) (T : List (List Dm)) (hT : T.length = m) (hm : m ≤ 300) (hh : h ≤ 32) (hall : ∀ L ∈ T, L.length = h) (hg : Gd T) (hr : RowSS w B A m h T) (hB : B ≤ w.heap.size) (u : Nat) (hu : u < T.length)
  (bl : Nat) (D : Nat → Int) (hd : RdI w bl m D) (hex : ∃ p, nearF (fts T T[u]) D (D u) = some p) :
  Calls Tryz.prog 43 #[.slice A m cap, .int .i64 (u : Int), .slice (some ⟨bl, 0, none⟩) m m] w (NeP (fts T T[u]) D (D u) w) := by
 have hum : u < m := by omega
 have HFl := Lib.hid (fun W (hb : Below w.heap.size w W) => iFlips W A m cap B h T hT hm hh hall hg (hr.below hT hb hB) (by have := hb.size; omega) u hu)
 have hlt : ∀ p ∈ fts T T[u], p.2 < m := fun p hp => hT ▸ hg.lt hu p hp
 have hln : (fts T T[u]).length ≤ 20000 := by rw [fts_length]; have := flips_le T[u]; omega
 generalize fts T T[u] = l at HFl hlt hln hex ⊢
 have HD := Lib.hid (fun W (hb : Below w.heap.size w W) => hd.on hb)
 have HId := Lib.hid (fun W (hb : Below w.heap.size w W) A' c' (hr : RdT W W.heap.size A' l) q5 q4 (h5 : Bx W q5 (.slice (some ⟨bl, 0, none⟩) m m)) (h4 : Bx W q4 (.int .i64 (u : Int))) => iIdxN W A' l.length c' W.heap.size l rfl hln hr (Nat.le_refl _) q5 q4 bl m u D hm hum hlt h5 h4 (hd.on hb) hex)
 generalize D u = du at HId ⊢
 clear hT hall hg hr hB hu hd hex hlt
 go_enter Tryz.func43, Tryz.ntmps43
 go_upto_region 1 with fail
 have HN := Lib.hid (n3_start w (.slice (some ⟨bl, 0, none⟩) m m) (u : Int) 3 24)
 generalize ((w.alloc (.cells #[.int .i64 (u : Int)] 3)).alloc (.cells #[.slice (some ⟨bl, 0, none⟩) m m] 24)).alloc (.cells #[.int .i64 0, .int .i64 0, .int .i64 0] 69) = Wb at HN ⊢
 obtain ⟨p, hp⟩ : ∃ p, w.heap.size = p := ⟨_, rfl⟩
 have HP := Lib.hid hp
 rw [hp] at HN ⊢
 clear hp
 have k4 := HN.out.b4.2
 go_wp2_with fail
 refine (HFl.out _ HN.out.bel).mono ?_
 rintro e w1 ⟨Af, cf, rfl, hof, hb1⟩
 have HN1 := Lib.hid (HN.out.on hb1)
 have HR := Lib.hid (rdT_own hof)
 clear k4 hof hb1 HN HFl
 obtain ⟨nl, hnl⟩ : ∃ nl, l.length = nl := ⟨_, rfl⟩
 have HI := Lib.hid (HId.out _ HN1.out.bel Af cf HR.out _ _ HN1.out.b5 HN1.out.b4)
 have HNl := Lib.hid hnl
 rw [hnl] at hln HI ⊢
 clear hnl HId
 go_wp2_with fail
 refine HI.out.mono ?_
 rintro e w2 ⟨k, hk, rfl, hf, hb2⟩
 obtain ⟨gf, f1, f2⟩ := HR.out
 obtain ⟨rfl, hgf⟩ := f1 (by omega)
 obtain ⟨d0, d1, d2⟩ := f2 k hk
 have e0 := (hb2.cell (p := ⟨gf, k * 3, none⟩) hgf).trans d0
 have e1 := (hb2.cell (p := ⟨gf, k * 3 + 1, none⟩) hgf).trans d1
 have e2 := (hb2.cell (p := ⟨gf, k * 3 + 2, none⟩) hgf).trans d2
 have HN2 := Lib.hid (HN1.out.on hb2)
 have hkn : (k : Int) < (nl : Int) := by have := HNl.out; omega
 obtain ⟨x, y, v, hxyv⟩ : ∃ x y v, l[k] = ((x, y), v) := ⟨_, _, _, rfl⟩
 rw [hxyv] at e0 e1 e2 hf
 simp only at e0 e1 e2
 have HF := Lib.hid hf
 have g0 := HN2.out.b6.c0
 have g1 := HN2.out.b6.c1
 have g2 := HN2.out.b6.c2
 have z0 := HN2.out.b6.froz 0
 have z1 := HN2.out.b6.froz 1
 have z2 := HN2.out.b6.froz 2
 have HQ := Lib.hid (HN2.out.b6.put (a := x) (b := y) (c := (v : Int)))
 have HB := Lib.hid (((HN2.out.bel.setCell (p := ⟨p + 1 + 1, 0, none⟩) (by show w.heap.size ≤ p + 1 + 1; have := HP.out; omega) (.int .i64 x)).setCell (p := ⟨p + 1 + 1, 1, none⟩) (by show w.heap.size ≤ p + 1 + 1; have := HP.out; omega) (.int .i64 y)).setCell (p := ⟨p + 1 + 1, 2, none⟩) (by show w.heap.size ≤ p + 1 + 1; have := HP.out; omega) (.int .i64 (v : Int)))
 clear hb2 d0 d1 d2 hxyv hf f1 f2 HI HN1 HN2 HR
 go_wp2_with fail
 generalize ((w2.setCell ⟨p + 1 + 1, 0, none⟩ (.int .i64 x)).setCell ⟨p + 1 + 1, 1, none⟩ (.int .i64 y)).setCell ⟨p + 1 + 1, 2, none⟩ (.int .i64 (v : Int)) = w3 at HQ HB ⊢
 have q0 := HQ.out.c0
 have q1 := HQ.out.c1
 have q2 := HQ.out.c2
 exact bodyPost_ret (v := .agg #[.int .i64 x, .int .i64 y, .int .i64 (v : Int)]) (by simp [results, Tryz.results43, go_sem, q0, q1, q2]) rfl ⟨x, y, v, rfl, HF.out, HB.out⟩
end Go.Proofs.YtmenmepdmojnfaaGreatDoor.Wg

namespace Go.Proofs.YtmenmepdmojnfaaGreatDoor.Wg
set_option linter.unusedVariables false
set_option linter.unusedSimpArgs false
set_option maxRecDepth 100000
open Go.RowKit Go.Proofs.YtmenmepdmojnfaaGreatDoor.Base Go.Proofs.YtmenmepdmojnfaaGreatDoor.Cels Go.Proofs.YtmenmepdmojnfaaGreatDoor.Dms Go.Proofs.YtmenmepdmojnfaaGreatDoor.Til Go.Proofs.YtmenmepdmojnfaaGreatDoor.Dss Go.Proofs.YtmenmepdmojnfaaGreatDoor.Sets Go.Proofs.YtmenmepdmojnfaaGreatDoor.Flp Go.Joins
open Go.Proofs.YtmenmepdmojnfaaGreatDoor.Lst (halfR_le listR listR_small listR_half iListTilings idxR)
open Go.Proofs.YtmenmepdmojnfaaGreatDoor.Ext (SSP halfR)
open Go.Proofs.YtmenmepdmojnfaaGreatDoor.Reg hiding add_none RC rc_start

theorem wayG_le (T : List (List Dm)) (D : Nat → Int) : ∀ n i, (wayG T D n i).length ≤ n := by
 intro n
 induction n with
 | zero => intro i; exact Nat.le_refl _
 | succ n ih =>
  intro i
  unfold wayG
  split
  ·rw [List.length_cons]; have := ih (idx T (flipL (T.getD i []) ‹Int × Int›.1 ‹Int × Int›.2)); omega
  ·simp
theorem lit_nil {w w' : World} {base : Nat} : w'.ownsRow base 67 2 (.slice none 0 0) 0 [] := ⟨rfl, .inl ⟨rfl, rfl⟩⟩
set_option maxHeartbeats 8000000 in
theorem iFlipWay (w : World) (A : Option Addr) (n cap B : Nat) (xs : List Int) (hx : xs.length = n) (hn : (n : Int) ≤ 9223372036854775807) (hrow : RowB w B A xs) (hB : B ≤ w.heap.size) (hT : Tab w)
  (A1 : Option Addr) (n1 cap1 B1 : Nat) (L : List Dm) (hL : L.length = n1) (hn1 : (n1 : Int) ≤ 1048576) (hf1 : Fits L) (h1 : RowM w B1 A1 L) (hB1 : B1 ≤ w.heap.size)
  (A2 : Option Addr) (n2 cap2 B2 : Nat) (M : List Dm) (hM : M.length = n2) (hn2 : (n2 : Int) ≤ 1048576) (hf2 : Fits M) (h2 : RowM w B2 A2 M) (hB2 : B2 ≤ w.heap.size) :
  Calls Tryz.prog 11 #[.agg #[.slice A n cap], .slice A1 n1 cap1, .slice A2 n2 cap2] w (WayP (listR xs) L M w) := by
 obtain ⟨i0, hi0, hz0, hz1, hz2⟩ := info_parts Cels.cellInfo
 have HLs := Lib.hid (fun W (hb : Below w.heap.size w W) => iListTilings W A n cap B xs hx hn (hrow.below hb hB) (by have := hb.size; omega) (hT.on hb (Nat.le_refl _)))
 have HS := Lib.hid (below_alloc1 w (.cells #[.slice A n cap] 26))
 have HR := Lib.hid (Rg.new w (.slice A n cap))
 have hsm := listR_small xs
 have hHf := listR_half (xs := xs)
 have hhf := halfR_le xs
 have hgd := list_gd xs
 unfold SSP at HLs
 generalize listR xs = T at HLs hsm hHf hgd ⊢
 generalize halfR xs = h at HLs hHf hhf
 have q1 := idx_two T L
 have q2 := idx_two T M
 obtain ⟨m, hm⟩ : ∃ m, T.length = m := ⟨_, rfl⟩
 have HM := Lib.hid hm
 rw [hm] at HLs hsm
 have HF1 := Lib.hid (fun W (hb : Below w.heap.size w W) A' c' B' (hr : RowSS W B' A' m h T) (hB' : B' ≤ W.heap.size) => iFind W A' m c' B' h T hm hsm hhf hHf hr hB' A1 n1 cap1 B1 L hL (by omega) (h1.below hb hB1) (by have := hb.size; omega))
 have HF2 := Lib.hid (fun W (hb : Below w.heap.size w W) A' c' B' (hr : RowSS W B' A' m h T) (hB' : B' ≤ W.heap.size) => iFind W A' m c' B' h T hm hsm hhf hHf hr hB' A2 n2 cap2 B2 M hM (by omega) (h2.below hb hB2) (by have := hb.size; omega))
 have HDs := Lib.hid (fun W A' c' B' (hr : RowSS W B' A' m h T) (hB' : B' ≤ W.heap.size) st (hst : st < T.length) => iDistances W A' m c' B' h T hm hsm hhf hHf hgd hr hB' st hst)
 have HNe := Lib.hid (fun W A' c' B' (hr : RowSS W B' A' m h T) (hB' : B' ≤ W.heap.size) u (hu : u < T.length) bl D (hd : RdI W bl m D) hex => iNearer W A' m c' B' h T hm hsm hhf hHf hgd hr hB' u hu bl D hd hex)
 have HSt := Lib.hid (fun (D : Nat → Int) j hD i n (hi : i < T.length) h => near_step hgd (D := D) (j := j) hD (i := i) (n := n) hi h)
 unfold DsP at HDs
 unfold NeP at HNe
 clear hx hn hrow hB hT hL hn1 hf1 h1 hB1 hM hn2 hf2 h2 hB2 hm hHf hgd
 go_enter Tryz.func11, Tryz.ntmps11
 go_wp2_with fail
 generalize w.alloc (.cells #[.slice A n cap] 26) = W0 at HS HR ⊢
 have c0 := HR.out.c0
 refine (HLs.out _ HS.out).mono ?_
 rintro e w1 ⟨A3, c3, rfl, hss, hb1⟩
 have B1 := Lib.hid (HS.out.trans (hb1.mono HS.out.size))
 have HSS := Lib.hid (ss_row hss)
 clear hss hb1 HS HR c0 HLs
 go_wp2_with fail
 refine (HF1.out _ B1.out _ _ _ HSS.out (Nat.le_refl _)).mono ?_
 rintro e w2 ⟨rfl, hb2⟩
 have B2 := Lib.hid (B1.out.trans (hb2.mono B1.out.size))
 have HSS2 := Lib.hid (rowSS_up (HSS.out.below HM.out hb2 (Nat.le_refl _)) hb2.size)
 clear hb2 B1 HSS HF1
 go_wp2_with fail
 refine (HF2.out _ B2.out _ _ _ HSS2.out (Nat.le_refl _)).mono ?_
 rintro e w3 ⟨rfl, hb3⟩
 have B3 := Lib.hid (B2.out.trans (hb3.mono B2.out.size))
 have HSS3 := Lib.hid (rowSS_up (HSS2.out.below HM.out hb3 (Nat.le_refl _)) hb3.size)
 clear hb3 B2 HSS2 HF2
 rcases q1 with ⟨i, hi, ei, e1⟩ | ⟨no, e1⟩
 ·rcases q2 with ⟨j, hj, ej, e2⟩ | ⟨no, e2⟩
  ·have HF := Lib.hid (fun (D : Nat → Int) (hD : ∀ v, IsD (Ed (lnk T)) j v (D v)) cs b (hr : (0 ≤ D i ∧ D i ≤ (T.length : Int) ∧ b = true ∧ cs = wayG T D (D i).toNat i) ∨ (D i < 0 ∧ b = false ∧ cs = [])) => show WayR T L M cs b from .inl ⟨i, j, hi, hj, D, ei, ej, hD, hr⟩)
   have him : i < m := by rw [← HM.out]; exact hi
   have hiI : (i : Int) < (m : Int) := by omega
   have hjm : j < m := by rw [← HM.out]; exact hj
   have HDi := Lib.hid (HDs.out w3 A3 c3 w3.heap.size HSS3.out (Nat.le_refl _) j hj)
   have hi1 : ¬ (i : Int) < 0 := by omega
   have hj1 : ¬ (j : Int) < 0 := by omega
   rw [e1, e2]
   clear hi hj ei ej e1 e2 HDs
   go_wp2_with fail
   refine HDi.out.mono ?_
   rintro e w4 ⟨bd, D, rfl, hnr, hD, hDm, hb4⟩
   have B4 := Lib.hid (B3.out.trans (hb4.mono B3.out.size))
   have HSS4 := Lib.hid (rowSS_up (HSS3.out.below HM.out hb4 (Nat.le_refl _)) hb4.size)
   have cd := hnr.cell him
   have HNr := Lib.hid (show RdI w4 bd m D from ⟨hnr.lt.2, fun v hv => hnr.cell hv⟩)
   have HD := Lib.hid hD
   have hDi := isD_ge (hD i)
   have hDm := hDm i
   clear hnr hD hb4 HDi B3 HSS3
   by_cases hneg : D i < 0
   ·have h1 : D i = -1 := by omega
    rw [h1] at cd
    have HE := Lib.hid (show WayP T L M w (.returned (.tuple #[.slice none 0 0, .bool false])) w4 from ⟨[], false, none, 0, rfl, lit_nil (w := w), HF.out D HD.out [] false (.inr ⟨hneg, rfl, rfl⟩), B4.out⟩)
    clear hDi hDm hneg h1 HNe HSt
    go_wp2
    go_ret2
    exact HE.out
   ·obtain ⟨N, hN⟩ : ∃ N : Nat, D i = (N : Int) := ⟨(D i).toNat, by omega⟩
    have HE := Lib.hid (show ∀ cs A' c' wr, cs = wayG T D N i → wr.ownsRow w4.heap.size 67 2 (.slice A' cs.length c') cs.length (rowC cs) → Below w4.heap.size w4 wr → WayP T L M w (.returned (.tuple #[.slice A' cs.length c', .bool true])) wr from fun cs A' c' wr h1 h2 h3 => ⟨cs, true, A', c', rfl, own_base h2 B4.out.size, HF.out D HD.out cs true (.inl ⟨by omega, by rw [HM.out]; exact hDm, rfl, by rw [hN]; exact h1⟩), B4.out.trans (h3.mono B4.out.size)⟩)
    have hNm : N ≤ m := by omega
    have HNi := Lib.hid hN
    have hd1 : ¬ D i = -1 := by omega
    obtain ⟨d0, hd0⟩ : ∃ d0, D i = d0 := ⟨_, rfl⟩
    rw [hd0] at cd hd1
    have hdb : (d0 == (-1 : Int)) = false := by simp [hd1]
    clear hd1 hd0 hN hneg hDi hDm HF
    go_wp2_with fail
    go_loopg [12, 13] N (fun gg sw si wr => ∃ (i' : Nat) (cs : List (Int × Int)) (A' : Option Addr) (c' : Nat), si = .int .i64 i' ∧ sw = .slice A' cs.length c' ∧ Hid (i' < m ∧ D i' = (gg : Int) ∧ cs ++ wayG T D gg i' = wayG T D N i) ∧ Hid (wr.ownsRow w4.heap.size 67 2 (.slice A' cs.length c') cs.length (rowC cs)) ∧ Hid (Below w4.heap.size w4 wr))
    case atStart => exact ⟨i, [], none, 0, rfl, rfl, Lib.hid ⟨him, HNi.out, rfl⟩, Lib.hid (lit_nil (w := w)), Lib.hid (Below.refl _ _)⟩
    case round =>
     obtain ⟨i', cs, A', c', rfl, rfl, HK, HO, HB⟩ := hrel
     obtain ⟨him', hgg, hway⟩ := HK.out
     by_cases hij : i' = j
     ·subst hij
      have hz := isD_uniq (HD.out i') isD_self
      obtain rfl : gk = 0 := by omega
      have HE2 := Lib.hid (HE.out cs A' c' wr (by rw [← hway]; exact (List.append_nil cs).symm) HO.out HB.out)
      clear hz hway hgg HO HB HE HK HNi cd
      go_wp2
      go_ret2
      exact HE2.out
     ·obtain ⟨n', rfl⟩ : ∃ n', gk = n' + 1 := by
       rcases Nat.eq_zero_or_pos gk with h0 | h0
       ·subst h0
        have := HD.out i'
        rw [hgg] at this
        exact absurd (isD_zero this).symm hij
       ·exact ⟨gk - 1, by omega⟩
      have hiT : i' < T.length := by rw [HM.out]; exact him'
      obtain ⟨p, hp1, hp2, hp3, hp4⟩ := HSt.out D j HD.out i' n' hiT hgg
      have HNx := Lib.hid (HNe.out wr A3 c3 w4.heap.size (HSS4.out.below HM.out HB.out (Nat.le_refl _)) HB.out.size i' hiT bd D (HNr.out.on HB.out) ⟨p, hp1⟩)
      have hcl : cs.length ≤ 300 := by
       have h1 := congrArg List.length hway
       rw [List.length_append] at h1
       have := wayG_le T D N i
       omega
      have HP := Lib.hid (show p.2 < m ∧ D p.2 = (n' : Int) ∧ (cs ++ [p.1]) ++ wayG T D n' p.2 = wayG T D N i from ⟨by rw [← HM.out]; exact hp2, hp3, by rw [List.append_assoc]; rw [hp4] at hway; exact hway⟩)
      have hne : ¬ (i' : Int) = (j : Int) := by omega
      generalize fts T T[i'] = l at HNx hp1
      have HPp := Lib.hid hp1
      clear hway hgg hp1 hp2 hp3 hp4 HK HE HNi hiT cd
      go_wp2_with fail
      refine HNx.out.mono ?_
      rintro e w5 ⟨x, y, v, rfl, hf, hb5⟩
      rw [HPp.out] at hf
      injection hf with hf
      subst hf
      have HO5 := Lib.hid (own_below HO.out hb5 (Nat.le_refl _))
      have HB5 := Lib.hid (HB.out.trans (hb5.mono HB.out.size))
      have HBx := Lib.hid (HB5.out.alloc HB5.out.size (.cells #[.int .i64 x, .int .i64 y, .int .i64 (v : Int)] 69))
      have HOx := Lib.hid (HO5.out.alloc (.cells #[.int .i64 x, .int .i64 y, .int .i64 (v : Int)] 69))
      have HX := Lib.hid (At3I.new w5 x y (v : Int))
      clear HNx HPp hb5 HO HB
      go_upto_region 12 with fail
      generalize w5.alloc (.cells #[.int .i64 x, .int .i64 y, .int .i64 (v : Int)] 69) = Wb at HBx HOx HX ⊢
      generalize w5.heap.size = p at HX ⊢
      clear HO5 HB5
      have b0 := HX.out.c0
      have b1 := HX.out.c1
      have hbs := HBx.out.size
      have HXa := Lib.hid (fun o => HX.out.on (below_alloc1 Wb o))
      obtain ⟨cn, hcn⟩ : ∃ cn, cs.length = cn := ⟨_, rfl⟩
      have HCn := Lib.hid hcn
      rw [hcn] at hcl HOx ⊢
      clear hcn
      go_upto_region 13 with (first
       | (at_builtin; refine wpList_append_own _ rfl _ _ 31 rfl w4.heap.size 67 i0 (.agg #[.int .i64 0, .int .i64 0]) 2 16 Tryz.underlying31 hi0 hz0 hz1 hz2 rfl (by decide) _ cn (rowC cs) rfl (HOx.out.alloc _) ⟨Wb.heap.size, 0, none⟩ 1 1 [.int .i64 x, .int .i64 y] rfl rfl (World.news_of_block (cs := #[.int .i64 x, .int .i64 y]) (t := 67) (fr := (0, 0)) (heap_alloc_new Wb _)) (by simp [Value.oneCell']) (by unfold maxLen; omega) (by omega) (by simp; omega) ?_; intro v2 w6 hown6 hgrow6 _))
      have HX6 := Lib.hid (At3I.kept (HXa.out _) (HOx.out.alloc _) (by decide) hgrow6)
      have b2 := HX6.out.c2
      obtain ⟨A6, c6, rfl⟩ := own_shape hown6
      have HO6 := Lib.hid (show w6.ownsRow w4.heap.size 67 2 (.slice A6 (cs ++ [(x, y)]).length c6) (cs ++ [(x, y)]).length (rowC (cs ++ [(x, y)])) by rw [List.length_append, HCn.out, rowC_snoc]; exact hown6)
      have HB6 := Lib.hid ((HBx.out.alloc hbs _).grown hgrow6 (by simp; omega) (fun g hg => (HOx.out.lt g hg).1))
      clear hown6 hgrow6 HBx HOx b0 b1 HX HXa
      go_wp2
      go_roundg n'
      case measure => omega
      case rel => exact ⟨v, cs ++ [(x, y)], A6, c6, rfl, by rw [List.length_append, HCn.out]; rfl, HP, HO6, HB6⟩
  ·have HE := Lib.hid (show WayP T L M w (.returned (.tuple #[.slice none 0 0, .bool false])) w3 from ⟨[], false, none, 0, rfl, lit_nil (w := w), way_no (.inr no), B3.out⟩)
   have hi1 : ¬ (i : Int) < 0 := by omega
   rw [e1, e2]
   clear no e1 e2 ei HDs HSS3 HNe HSt
   go_wp2
   go_ret2
   exact HE.out
 ·have HE := Lib.hid (show WayP T L M w (.returned (.tuple #[.slice none 0 0, .bool false])) w3 from ⟨[], false, none, 0, rfl, lit_nil (w := w), way_no (.inl no), B3.out⟩)
  rw [e1]
  generalize idxR T M = z
  clear no e1 q2 HDs HSS3 HNe HSt
  go_wp2
  go_ret2
  exact HE.out
end Go.Proofs.YtmenmepdmojnfaaGreatDoor.Wg
