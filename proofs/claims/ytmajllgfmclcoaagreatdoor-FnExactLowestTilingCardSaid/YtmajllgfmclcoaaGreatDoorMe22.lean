/- HgrD, TilA in one text. -/
import Derived.Test.YtmajllgfmclcoaaGreatDoorMe21
import Derived.Test.YtmajllgfmclcoaaGreatDoorMe03
import Derived.Test.YtmajllgfmclcoaaGreatDoorMe01

namespace Go.Proofs.YtmajllgfmclcoaaGreatDoor.Hgt
set_option linter.unusedVariables false
set_option linter.unusedSimpArgs false
open Go.RowKit Go.Proofs.YtmajllgfmclcoaaGreatDoor.Pure Go.Proofs.YtmajllgfmclcoaaGreatDoor.Dms Go.Proofs.YtmajllgfmclcoaaGreatDoor.Til Go.Joins
open Go.Proofs.YtmajllgfmclcoaaGreatDoor.Bal (piecesN outsN)

def St (h : List Int) (v : Nat) : Prop := ∃ x, h[v]? = some x ∧ x ≠ -1000
def unH (h : List Int) : Nat := h.count (-1000)
theorem st_not {h : List Int} {v : Nat} (hv : v < h.length) : ¬ St h v ↔ h[v]? = some (-1000) := by
 constructor
 ·intro q
  refine Classical.byContradiction fun r => q ⟨h[v], List.getElem?_eq_getElem hv, fun e => r ?_⟩
  rw [List.getElem?_eq_getElem hv, e]
 ·rintro e ⟨x, hx, hne⟩
  rw [e] at hx
  injection hx with hx
  exact hne hx.symm
theorem un_set {h : List Int} {w : Nat} {y : Int} (hw : h[w]? = some (-1000)) (hy : y ≠ -1000) : unH (h.set w y) + 1 = unH h := by
 obtain ⟨hl, e⟩ := List.getElem?_eq_some_iff.1 hw
 unfold unH
 rw [List.count_set hl, e]
 have hp : 0 < List.count (-1000 : Int) h := List.count_pos_iff.2 (e ▸ List.getElem_mem hl)
 have hy2 : (y == (-1000 : Int)) = false := by simpa using hy
 rw [hy2]
 simp
 omega
structure Hs (xs : List Int) (F : Nat → Int) (h : List Int) : Prop where
 len : h.length = 81
 val : ∀ v x, h[v]? = some x → x = -1000 ∨ (x = F v ∧ crnB xs v = true ∧ (unH h : Int) - 80 ≤ x ∧ x ≤ 80 - (unH h : Int))
section
variable {xs : List Int} {X Y : Cx} {F : Nat → Int} {h h' h1 h2 : List Int} {p w : Nat}
theorem Hs.at (s : Hs xs F h) {v : Nat} (hv : v < 81) : ∃ x, h[v]? = some x ∧ (-1000 ≤ x ∧ x ≤ 81) ∧ (x = -1000 ↔ ¬ St h v) ∧ (St h v → x = F v) := by
 have hl : v < h.length := by rw [s.len]; exact hv
 have e : h[v]? = some h[v] := List.getElem?_eq_getElem hl
 refine ⟨h[v], e, ?_, ?_, ?_⟩
 ·rcases s.val v _ e with r | r <;> omega
 ·rw [st_not hl, e]
  constructor
  ·intro r; rw [r]
  ·intro r; injection r
 ·rintro ⟨x, hx, hne⟩
  rw [e] at hx
  injection hx with hx
  rcases s.val v _ e with r | r
  ·exact absurd (hx.symm.trans r) hne
  ·exact r.1
theorem Hs.put (s : Hs xs F h) (hF : ∀ d v w, Lk xs X Y d v w → F w = F v + es d v) {d : Nat} (hp : St h p) (hl : Lk xs X Y d p w) (hw : h[w]? = some (-1000)) : Hs xs F (h.set w (F w)) := by
 obtain ⟨x, hx, hne⟩ := hp
 have e := hF d p w hl
 rcases s.val p x hx with r | ⟨rfl, _, r1, r2⟩
 ·exact absurd r hne
 have hw81 : w < 81 := by have := (List.getElem?_eq_some_iff.1 hw).1; rw [s.len] at this; exact this
 have hu : unH (h.set w (F w)) + 1 = unH h := un_set hw (by rcases es_or d p with c | c <;> omega)
 refine ⟨by rw [List.length_set]; exact s.len, fun v y hy => ?_⟩
 by_cases q : v = w
 ·subst q
  rw [List.getElem?_set_self (by rw [s.len]; exact hw81)] at hy
  injection hy with hy
  right
  refine ⟨hy.symm, hl.crn.2, ?_, ?_⟩ <;> rcases es_or d p with c | c <;> omega
 ·rw [List.getElem?_set_ne (fun r => q r.symm)] at hy
  rcases s.val v y hy with r | ⟨r1, r2, r3, r4⟩
  ·exact .inl r
  ·right; refine ⟨r1, r2, ?_, ?_⟩ <;> omega
theorem st_put {y : Int} (hw : w < h.length) (hy : y ≠ -1000) {v : Nat} : St (h.set w y) v ↔ v = w ∨ St h v := by
 unfold St
 by_cases q : v = w
 ·subst q
  rw [List.getElem?_set_self hw]
  simp [hy]
 ·rw [List.getElem?_set_ne (fun r => q r.symm)]
  simp [q]
structure Sx (xs : List Int) (X Y : Cx) (F : Nat → Int) (h h' : List Int) (p : Nat) : Prop where
 hs : Hs xs F h'
 ext : ∀ v, St h v → h'[v]? = h[v]?
 un : unH h' ≤ unH h
 clo : ∀ d v w, (v = p ∨ (¬ St h v ∧ St h' v)) → Lk xs X Y d v w → St h' w
structure Mi (xs : List Int) (X Y : Cx) (F : Nat → Int) (h h' : List Int) (p : Nat) (done : List Nat) : Prop where
 hs : Hs xs F h'
 ext : ∀ v, St h v → h'[v]? = h[v]?
 un : unH h' ≤ unH h
 new : ∀ d v w, v ≠ p → ¬ St h v → St h' v → Lk xs X Y d v w → St h' w
 own : ∀ d w, w ∈ done → Lk xs X Y d p w → St h' w
 st : St h p
theorem st_ext {hh h2 : List Int} (e : ∀ v, St hh v → h2[v]? = hh[v]?) {v : Nat} (s : St hh v) : St h2 v := by
 have := e v s
 obtain ⟨x, hx, hne⟩ := s
 exact ⟨x, this.trans hx, hne⟩
theorem Mi.start (s : Hs xs F h) (hp : St h p) : Mi xs X Y F h h p [] :=
 ⟨s, fun _ _ => rfl, Nat.le_refl _, fun d v w _ a b => absurd b a, fun d w hm => by simp at hm, hp⟩
theorem Mi.skip {done : List Nat} (s : Mi xs X Y F h h' p done) (hw : ∀ d, Lk xs X Y d p w → St h' w) : Mi xs X Y F h h' p (done ++ [w]) :=
 ⟨s.hs, s.ext, s.un, s.new, fun d u hm hl => by
  rcases List.mem_append.1 hm with hm | hm
  ·exact s.own d u hm hl
  ·rw [List.mem_singleton.1 hm] at hl ⊢; exact hw d hl, s.st⟩
theorem Mi.here {done : List Nat} (s : Mi xs X Y F h h' p done) : St h' p := st_ext s.ext s.st
theorem Mi.call {done : List Nat} (s : Mi xs X Y F h h' p done) (hF : ∀ d v w, Lk xs X Y d v w → F w = F v + es d v) {d : Nat} (hl : Lk xs X Y d p w) (hw : h'[w]? = some (-1000))
  (c : Sx xs X Y F (h'.set w (F w)) h2 w) : Mi xs X Y F h h2 p (done ++ [w]) := by
 have hwl : w < h'.length := (List.getElem?_eq_some_iff.1 hw).1
 have hne : F w ≠ -1000 := by
  obtain ⟨x, hx, hne⟩ := s.here
  rcases s.hs.val p x hx with r | ⟨r, _, r1, r2⟩
  ·exact absurd r hne
  ·have := hF d p w hl
   rcases es_or d p with c | c <;> omega
 have put : ∀ v, St (h'.set w (F w)) v ↔ v = w ∨ St h' v := fun v => st_put hwl hne
 have hnw : ¬ St h' w := (st_not hwl).2 hw
 have keep : ∀ v, St h' v → St h2 v := fun v hv => st_ext c.ext ((put v).2 (.inr hv))
 refine ⟨c.hs, fun v hv => ?_, ?_, fun dd v u h1 h3 h4 h5 => ?_, fun dd u hm hk => ?_, s.st⟩
 ·have h1 : St h' v := st_ext s.ext hv
  rw [c.ext v ((put v).2 (.inr h1)), List.getElem?_set_ne (fun e => hnw (by rw [e]; exact h1))]
  exact s.ext v hv
 ·have := c.un
  have := s.un
  have := un_set hw hne
  omega
 ·by_cases q : St h' v
  ·exact keep u (s.new dd v u h1 h3 q h5)
  ·by_cases r : v = w
   ·exact c.clo dd v u (.inl r) h5
   ·exact c.clo dd v u (.inr ⟨fun z => ((put v).1 z).elim r q, h4⟩) h5
 ·rcases List.mem_append.1 hm with hm | hm
  ·exact keep u (s.own dd u hm hk)
  ·rw [List.mem_singleton.1 hm]
   exact st_ext c.ext ((put w).2 (.inl rfl))
theorem Mi.done {done : List Nat} (s : Mi xs X Y F h h' p done) (hd : ∀ d w, Lk xs X Y d p w → w ∈ done) : Sx xs X Y F h h' p :=
 ⟨s.hs, s.ext, s.un, fun d v w hv hl => by
  by_cases q : v = p
  ·subst q; exact s.own d w (hd d w hl) hl
  ·rcases hv with e | ⟨a, b⟩
   ·exact absurd e q
   ·exact s.new d v w q a b hl⟩
theorem clo_all (ho : okR xs) (h1 : piecesN xs = 1) (ht : Tl (gX xs) X Y) (Z : Nat → Prop) (clo : ∀ d v w, Z v → Lk xs X Y d v w → Z w) (z0 : Z (lc xs)) (hcr : crnB xs (lc xs) = true) : ∀ v, crnB xs v = true → Z v := by
 have key := all_cor ho h1 ht (Z := fun i j => Z (9 * (j - 1) + (i - 1))) (fun i j hg hx => by
  have l : 1 ≤ i ∧ i ≤ 8 ∧ j ≤ 8 := by rcases hg with r | r <;> have := gX_lt r <;> omega
  have e : frH xs X (9 * j + (i - 1)) = true := by
   unfold frH
   rw [show (9 * j + (i - 1)) % 9 + 1 = i by omega, show (9 * j + (i - 1)) / 9 = j by omega, hx]
   rcases hg with r | r <;> rw [r] <;> simp
  have l1 : Lk xs X Y 0 (9 * j + (i - 1)) (9 * j + i) := .inl ⟨rfl, by omega, by omega, e⟩
  have l2 : Lk xs X Y 2 (9 * j + i) (9 * j + (i - 1)) := .inr (.inr (.inl ⟨rfl, by omega, by omega, e⟩))
  have e1 : 9 * (j + 1 - 1) + (i + 1 - 1) = 9 * j + i := by omega
  have e2 : 9 * (j + 1 - 1) + (i - 1) = 9 * j + (i - 1) := by omega
  simp only [e1, e2]
  exact ⟨fun r => clo _ _ _ r l1, fun r => clo _ _ _ r l2⟩) (fun i j hg hx => by
  have l : i ≤ 8 ∧ 1 ≤ j ∧ j ≤ 8 := by rcases hg with r | r <;> have := gX_lt r <;> omega
  have e : frV xs Y (9 * (j - 1) + i) = true := by
   unfold frV
   rw [show (9 * (j - 1) + i) % 9 = i by omega, show (9 * (j - 1) + i) / 9 + 1 = j by omega, hx]
   rcases hg with r | r <;> rw [r] <;> simp
  have l1 : Lk xs X Y 1 (9 * (j - 1) + i) (9 * j + i) := .inr (.inl ⟨rfl, by omega, by omega, e⟩)
  have l2 : Lk xs X Y 3 (9 * j + i) (9 * (j - 1) + i) := .inr (.inr (.inr ⟨rfl, by omega, e⟩))
  have e1 : 9 * (j + 1 - 1) + (i + 1 - 1) = 9 * j + i := by omega
  have e2 : 9 * (j - 1) + (i + 1 - 1) = 9 * (j - 1) + i := by omega
  simp only [e1, e2]
  exact ⟨fun r => clo _ _ _ r l1, fun r => clo _ _ _ r l2⟩) (i := lc xs % 9 + 1) (j := lc xs / 9 + 1) (crn_iff.1 hcr) (by
  have e : 9 * (lc xs / 9 + 1 - 1) + (lc xs % 9 + 1 - 1) = lc xs := by omega
  simp only [e]
  exact z0)
 intro v hb
 have r := key _ _ (crn_iff.1 hb)
 have e : 9 * (v / 9 + 1 - 1) + (v % 9 + 1 - 1) = v := by omega
 simp only [e] at r
 exact r
def row0 (xs : List Int) : List Int := (List.replicate 81 (-1000 : Int)).set (lc xs) 0
theorem row0_st (hc : lc xs < 81) {v : Nat} : St (row0 xs) v ↔ v = lc xs := by
 unfold row0
 rw [st_put (by simpa using hc) (by omega)]
 constructor
 ·rintro (r | ⟨x, hx, hne⟩)
  ·exact r
  ·rw [List.getElem?_replicate] at hx
   split at hx
   ·injection hx with hx; exact absurd hx.symm hne
   ·cases hx
 ·exact .inl
theorem row0_un (hc : lc xs < 81) : unH (row0 xs) = 80 := by
 have := un_set (h := List.replicate 81 (-1000 : Int)) (w := lc xs) (y := 0) (by rw [List.getElem?_replicate, if_pos hc]) (by omega)
 unfold row0
 have e : unH (List.replicate 81 (-1000 : Int)) = 81 := by unfold unH; exact List.count_replicate_self
 omega
theorem row0_hs (hc : lc xs < 81) (hcr : crnB xs (lc xs) = true) (h0 : F (lc xs) = 0) : Hs xs F (row0 xs) := by
 refine ⟨by unfold row0; simp, fun v x hx => ?_⟩
 rw [row0_un hc]
 by_cases q : v = lc xs
 ·subst q
  unfold row0 at hx
  rw [List.getElem?_set_self (by simpa using hc)] at hx
  injection hx with hx
  exact .inr ⟨by omega, hcr, by omega, by omega⟩
 ·left
  unfold row0 at hx
  rw [List.getElem?_set_ne (fun r => q r.symm), List.getElem?_replicate] at hx
  split at hx
  ·injection hx with hx; exact hx.symm
  ·cases hx
theorem Sx.row {L : List Dm} {f : Fm} (ho : okR xs) (h1 : piecesN xs = 1) (ht : tilB xs L = true) (hf : Hts (gX xs) (xL L) (yL L) f) (hc : lc xs < 81) (hcr : crnB xs (lc xs) = true)
  (s : Sx xs (xL L) (yL L) (hv xs f) (row0 xs) h' (lc xs)) : Row9 xs L h' := by
 have hall := clo_all ho h1 (tl_of ht) (Z := St h') (fun d v w hz hl => by
  by_cases q : v = lc xs
  ·exact s.clo d v w (.inl q) hl
  ·exact s.clo d v w (.inr ⟨fun r => q ((row0_st hc).1 r), hz⟩) hl) (st_ext s.ext ((row0_st hc).2 rfl)) hcr
 have bd : ∀ v, v < 81 → crnB xs v = true → ∃ x, h'[v]? = some x ∧ x = hv xs f v ∧ -80 ≤ x ∧ x ≤ 80 := fun v hv' hb => by
  obtain ⟨x, hx, hne⟩ := hall v hb
  rcases s.hs.val v x hx with r | ⟨r, _, r1, r2⟩
  ·exact absurd r hne
  ·exact ⟨x, hx, r, by omega, by omega⟩
 refine ⟨ho, h1, ht, hc, hcr, f, hf, List.ext_getElem? (fun v => ?_), fun v hv' hb => ?_⟩
 ·by_cases hv' : v < 81
  ·rw [row_at xs f hv']
   cases hb : crnB xs v with
   | true =>
    obtain ⟨x, hx, e, _⟩ := bd v hv' hb
    rw [hx, e]; rfl
   | false =>
    have hl : v < h'.length := by rw [s.hs.len]; exact hv'
    rw [List.getElem?_eq_getElem hl]
    rcases s.hs.val v _ (List.getElem?_eq_getElem hl) with r | ⟨_, r, _⟩
    ·rw [r]; rfl
    ·rw [hb] at r; cases r
  ·rw [List.getElem?_eq_none (by rw [s.hs.len]; omega), List.getElem?_eq_none (by rw [row_len]; omega)]
 ·obtain ⟨x, hx, rfl, b1, b2⟩ := bd v hv' hb
  exact ⟨b1, b2⟩
end
def inC (c : Int × Int) : Bool := decide (0 ≤ c.1 ∧ c.1 < 9 ∧ 0 ≤ c.2 ∧ c.2 < 9)
def ends4 (x y : Int) : List (Int × Int) := [(x, y - 1), (x - 1, y), (x + 1, y), (x, y + 1)]
def endsP (x y : Int) : List (Int × Int) := (ends4 x y).filter inC
def pl9 (c : Int × Int) : Nat := 9 * c.2.toNat + c.1.toNat
theorem inC_iff {c : Int × Int} : inC c = true ↔ 0 ≤ c.1 ∧ c.1 < 9 ∧ 0 ≤ c.2 ∧ c.2 < 9 := by unfold inC; rw [decide_eq_true_eq]
theorem ends_le (x y : Int) : (endsP x y).length ≤ 4 := by unfold endsP; exact List.length_filter_le _ _
theorem ends_dir {x y : Int} {c : Int × Int} (h : c ∈ endsP x y) : (0 ≤ c.1 ∧ c.1 < 9 ∧ 0 ≤ c.2 ∧ c.2 < 9) ∧ ∃ d, d < 4 ∧ c.1 = x + dX d ∧ c.2 = y + dY d := by
 unfold endsP at h
 obtain ⟨h1, h2⟩ := List.mem_filter.1 h
 refine ⟨inC_iff.1 h2, ?_⟩
 unfold ends4 at h1
 simp only [List.mem_cons, List.not_mem_nil, or_false] at h1
 rcases h1 with rfl | rfl | rfl | rfl
 ·exact ⟨3, by omega, by show x = x + 0; omega, by show y - 1 = y + -1; omega⟩
 ·exact ⟨2, by omega, by show x - 1 = x + -1; omega, by show y = y + 0; omega⟩
 ·exact ⟨0, by omega, rfl, by show y = y + 0; omega⟩
 ·exact ⟨1, by omega, by show x = x + 0; omega, rfl⟩
theorem ends_all {xs : List Int} {X Y : Cx} {d v w : Nat} (hv : v < 81) (h : Lk xs X Y d v w) : w ∈ (endsP ((v % 9 : Nat) : Int) ((v / 9 : Nat) : Int)).map pl9 := by
 have hw := h.lt hv
 refine List.mem_map.2 ⟨(((w % 9 : Nat) : Int), ((w / 9 : Nat) : Int)), ?_, by unfold pl9; simp only; omega⟩
 unfold endsP
 refine List.mem_filter.2 ⟨?_, inC_iff.2 (by simp only; omega)⟩
 unfold ends4
 simp only [List.mem_cons, List.not_mem_nil, or_false, Prod.mk.injEq]
 unfold Lk at h
 omega
theorem end_link {xs : List Int} {L : List Dm} (ht : tilB xs L = true) {v : Nat} (hv : v < 81) {x y : Int} (ex : x = ((v % 9 : Nat) : Int)) (ey : y = ((v / 9 : Nat) : Int)) {c : Int × Int} (hc : c ∈ endsP x y) :
  pl9 c < 81 ∧ ((pl9 c : Nat) : Int) = c.2 * 9 + c.1 ∧ ∃ d,
   (∀ d', Lk xs (xL L) (yL L) d' v (pl9 c) → atI L (clX x y c.1 c.2) (clY x y c.1 c.2) ≠ atI L (clX c.1 c.2 x y) (clY c.1 c.2 x y)) ∧
   (atI L (clX x y c.1 c.2) (clY x y c.1 c.2) ≠ atI L (clX c.1 c.2 x y) (clY c.1 c.2 x y) → Lk xs (xL L) (yL L) d v (pl9 c)) ∧ stepE x y c.1 c.2 = es d v := by
 obtain ⟨hin, d, hd, e3, e4⟩ := ends_dir hc
 have hp : pl9 c < 81 := by unfold pl9; omega
 have hpe : ((pl9 c : Nat) : Int) = c.2 * 9 + c.1 := by unfold pl9; omega
 refine ⟨hp, hpe, d, ?_⟩
 have hfree := cl_free ht hd e3 e4
 rcases way_link (xs := xs) (L := L) hv hd ex ey e3 e4 with ⟨h0, hno⟩ | ⟨hs, _, w, hw, ew, h1, h2⟩
 ·exfalso
  have h4 : d = 0 ∨ d = 1 ∨ d = 2 ∨ d = 3 := by omega
  unfold stepE sgnE at h0
  rw [if_pos (by omega)] at h0
  rcases h4 with rfl | rfl | rfl | rfl
  ·have a : c.1 = x + 1 := e3
   have b : c.2 = y := by rw [e4]; show y + 0 = y; omega
   rw [if_pos ⟨a, b⟩] at h0
   split at h0 <;> omega
  ·have a : c.1 = x := by rw [e3]; show x + 0 = x; omega
   have b : c.2 = y + 1 := e4
   rw [if_neg (by omega), if_neg (by omega), if_pos ⟨a, b⟩] at h0
   split at h0 <;> omega
  ·have a : c.1 = x - 1 := e3
   have b : c.2 = y := by rw [e4]; show y + 0 = y; omega
   rw [if_neg (by omega), if_pos (by omega)] at h0
   split at h0 <;> omega
  ·have a : c.1 = x := by rw [e3]; show x + 0 = x; omega
   have b : c.2 = y - 1 := e4
   rw [if_neg (by omega), if_neg (by omega), if_neg (by omega), if_pos (by omega)] at h0
   split at h0 <;> omega
 ·obtain rfl : w = pl9 c := by omega
  refine ⟨fun d' hl => ?_, fun hne => h2.2 (hfree.1 hne), hs⟩
  have hdd : d' = d := by
   have h4 : d = 0 ∨ d = 1 ∨ d = 2 ∨ d = 3 := by omega
   rcases h4 with rfl | rfl | rfl | rfl
   ·have a : c.1 = x + 1 := e3
    have b : c.2 = y := by rw [e4]; show y + 0 = y; omega
    unfold Lk at hl; omega
   ·have a : c.1 = x := by rw [e3]; show x + 0 = x; omega
    have b : c.2 = y + 1 := e4
    unfold Lk at hl; omega
   ·have a : c.1 = x - 1 := e3
    have b : c.2 = y := by rw [e4]; show y + 0 = y; omega
    unfold Lk at hl; omega
   ·have a : c.1 = x := by rw [e3]; show x + 0 = x; omega
    have b : c.2 = y - 1 := e4
    unfold Lk at hl; omega
  rw [hdd] at hl
  exact hfree.2 (h2.1 hl)
end Go.Proofs.YtmajllgfmclcoaaGreatDoor.Hgt

namespace Go.Proofs.YtmajllgfmclcoaaGreatDoor.Til
set_option linter.unusedVariables false
set_option linter.unusedSimpArgs false
open Go.RowKit Go.Proofs.YtmajllgfmclcoaaGreatDoor.Cell Go.Proofs.YtmajllgfmclcoaaGreatDoor.Dom Go.Proofs.YtmajllgfmclcoaaGreatDoor.Dms Go.Joins

def Bc (w : World) (x y : Int) (W : World) : Prop := Below w.heap.size w W ∧ At2 W w.heap.size x y
theorem bc_start (x y : Int) (w : World) : Bc w x y (w.alloc (.cells #[.int .i64 x, .int .i64 y] 79)) := ⟨below_alloc1 w _, At2.new w x y⟩
theorem Bc.on {w W W' : World} {x y : Int} (h : Bc w x y W) (hb : Below W.heap.size W W') : Bc w x y W' := ⟨h.1.trans (hb.mono h.1.size), h.2.on hb⟩
def Miss (L : List Dm) (x y : Int) (k : Nat) : Prop := ∀ j e, j < k → L[j]? = some e → covM e x y = false
theorem Miss.zero (L : List Dm) (x y : Int) : Miss L x y 0 := fun j e h => by omega
theorem Miss.succ {L : List Dm} {x y : Int} {k : Nat} (h : Miss L x y k) {d : Dm} (hd : L[k]? = some d) (hc : covM d x y = false) : Miss L x y (k + 1) := by
 intro j e hj he
 by_cases hjk : j = k
 ·subst hjk; rw [hd] at he; injection he with he; subst he; exact hc
 ·exact h j e (by omega) he
theorem Miss.hit {L : List Dm} {x y : Int} {k : Nat} (h : Miss L x y k) {d : Dm} (hd : L[k]? = some d) (hc : covM d x y = true) : atI L x y = (k : Int) := atI_hit h hd hc
theorem Miss.all {L : List Dm} {x y : Int} (h : Miss L x y L.length) : atI L x y = -1 := atI_miss h

set_option maxRecDepth 100000 in
set_option maxHeartbeats 1000000 in
theorem iDominoAt (w : World) (A : Option Addr) (n cap B : Nat) (L : List Dm) (hL : L.length = n) (hn : (n : Int) ≤ 9223372036854775807) (hf : Fits L) (h : RowM w B A L) (hB : B ≤ w.heap.size) (x y : Int) :
  Calls Tryz.prog 137 #[.slice A n cap, .agg #[.int .i64 x, .int .i64 y]] w (Num (atI L x y) w) := by
 obtain ⟨b0, off, h1, h2⟩ := h.at
 have HA := Lib.hid (fun hp => h1 hp)
 have HC := Lib.hid h2
 have HL := Lib.hid hL
 have HF := Lib.hid hf
 have HB := Lib.hid hB
 have HS := Lib.hid (bc_start x y w)
 clear h h1 h2 hL hf hB
 go_enter Tryz.func137, Tryz.ntmps137
 go_wp2_with fail
 go_loopw [9] (fun i wr => ∃ j : Nat, j ≤ n ∧ i = .int .i64 j ∧ Bc w x y wr ∧ Hid (Miss L x y j)) (fun i _ => n - (intOf i).toNat)
 case atStart => exact ⟨0, Nat.zero_le _, rfl, HS.out, Lib.hid (Miss.zero _ _ _)⟩
 case round =>
  clear HS
  obtain ⟨j, hj, rfl, hT, hM⟩ := hrel
  have hbs := hT.1.size
  by_cases hlt : j < n
  ·have hjL : j < L.length := by have := HL.out; omega
   obtain ⟨rfl, hbB⟩ := HA.out (by omega)
   obtain ⟨c0, c1, c2⟩ := HC.out j hjL
   have hbw : b0 < w.heap.size := by have := HB.out; omega
   have c0 := (hT.1.cell (p := ⟨b0, off + j * 3, none⟩) hbw).trans c0
   have c1 := (hT.1.cell (p := ⟨b0, off + j * 3 + 1, none⟩) hbw).trans c1
   have c2 := (hT.1.cell (p := ⟨b0, off + j * 3 + 2, none⟩) hbw).trans c2
   obtain ⟨f1, f2⟩ := HF.out L[j] (List.getElem_mem hjL)
   have HD := Lib.hid (List.getElem?_eq_getElem (l := L) hjL)
   generalize L[j] = d at c0 c1 c2 f1 f2 HD
   obtain ⟨u, v, b⟩ := d
   simp only at c0 c1 c2 f1 f2
   have HO := Lib.hid (fun W => iDominoOk u v b f1 f2 W)
   have HV := Lib.hid (fun W => iCovers u v b f1 f2 x y W)
   have HK := Lib.hid (show covM (u, v, b) x y = (domB u v b && (eqB x y u v || eqB x y (sx u b) (sy v b))) from rfl)
   generalize domB u v b = p at HO HK
   generalize (eqB x y u v || eqB x y (sx u b) (sy v b)) = r at HV HK
   have HT := Lib.hid hT
   clear f1 f2 hT hbs
   go_wp2_with fail
   refine (HO.out _).mono ?_
   rintro e w1 ⟨rfl, hb1⟩
   obtain ⟨hbw1, K1⟩ := bx3 u v b wr w1 hb1
   have T1 := HT.out.on hbw1
   have k0 := K1.c0
   have k1 := K1.c1
   have k2 := K1.c2
   have k3 := T1.2.c0
   have k4 := T1.2.c1
   clear hb1 HO K1 HT hbw1
   cases p with
   | false =>
    have HM := Lib.hid (hM.out.succ HD.out (by rw [HK.out]; rfl))
    clear k0 k1 k2 k3 k4 HV HK hM HD
    go_wp2
    go_roundw
    case rel => exact ⟨j + 1, by omega, by go_num, T1, HM⟩
    case measure => (simp [intOf] <;> omega)
   | true =>
    go_wp2_with fail
    refine (HV.out _).mono ?_
    rintro e w2 ⟨rfl, hb2⟩
    have T2 := T1.on hb2
    clear k0 k1 k2 k3 k4 T1 hb2 HV
    cases r with
    | true =>
     have HE := Lib.hid (hM.out.hit HD.out (by rw [HK.out]; rfl))
     go_wp2
     go_ret
     rw [HE.out]
     exact ⟨rfl, T2.1⟩
    | false =>
     have HM := Lib.hid (hM.out.succ HD.out (by rw [HK.out]; rfl))
     clear HK hM HD
     go_wp2
     go_roundw
     case rel => exact ⟨j + 1, by omega, by go_num, T2, HM⟩
     case measure => (simp [intOf] <;> omega)
  ·obtain rfl : j = n := by omega
   have HE := Lib.hid (show atI L x y = -1 from Miss.all (by rw [HL.out]; exact hM.out))
   go_wp2
   go_ret
   rw [HE.out]
   exact ⟨rfl, hT.1⟩
set_option maxRecDepth 100000 in
set_option maxHeartbeats 1000000 in
theorem sDominoAt (w : World) (A : Option Addr) (n cap B : Nat) (L : List Dm) (hL : L.length = n) (hn : (n : Int) ≤ 9223372036854775807) (h : RowM w B A L) (hB : B ≤ w.heap.size) (x y : Int) :
  Calls Tryz.prog 91 #[.slice A n cap, .agg #[.int .i64 x, .int .i64 y]] w (Num (atI L x y) w) := by
 obtain ⟨b0, off, h1, h2⟩ := h.at
 have HA := Lib.hid (fun hp => h1 hp)
 have HC := Lib.hid h2
 have HL := Lib.hid hL
 have HB := Lib.hid hB
 have HS := Lib.hid (bc_start x y w)
 clear h h1 h2 hL hB
 go_enter Tryz.func91, Tryz.ntmps91
 go_wp2_with fail
 go_loopw [5] (fun i wr => ∃ j : Nat, j ≤ n ∧ i = .int .i64 j ∧ Bc w x y wr ∧ Hid (Miss L x y j)) (fun i _ => n - (intOf i).toNat)
 case atStart => exact ⟨0, Nat.zero_le _, rfl, HS.out, Lib.hid (Miss.zero _ _ _)⟩
 case round =>
  clear HS
  obtain ⟨j, hj, rfl, hT, hM⟩ := hrel
  have hbs := hT.1.size
  by_cases hlt : j < n
  ·have hjL : j < L.length := by have := HL.out; omega
   obtain ⟨rfl, hbB⟩ := HA.out (by omega)
   obtain ⟨c0, c1, c2⟩ := HC.out j hjL
   have hbw : b0 < w.heap.size := by have := HB.out; omega
   have c0 := (hT.1.cell (p := ⟨b0, off + j * 3, none⟩) hbw).trans c0
   have c1 := (hT.1.cell (p := ⟨b0, off + j * 3 + 1, none⟩) hbw).trans c1
   have c2 := (hT.1.cell (p := ⟨b0, off + j * 3 + 2, none⟩) hbw).trans c2
   have HD := Lib.hid (List.getElem?_eq_getElem (l := L) hjL)
   generalize L[j] = d at c0 c1 c2 HD
   obtain ⟨u, v, b⟩ := d
   simp only at c0 c1 c2
   have HO := Lib.hid (fun W => sDominoOk u v b W)
   have HU := Lib.hid (fun hd W => sCellsUnder_ok u v b hd W)
   have HK := Lib.hid (show covM (u, v, b) x y = (domB u v b && (eqB x y u v || eqB x y (sx u b) (sy v b))) from rfl)
   generalize domB u v b = p at HO HU HK
   generalize sx u b = m at HU HK
   generalize sy v b = q at HU HK
   have HT := Lib.hid hT
   go_wp2_with fail
   refine (HO.out _).mono ?_
   rintro e w1 ⟨rfl, hb1⟩
   have T1 := HT.out.on hb1
   clear HO HT hT hbs
   cases p with
   | false =>
    have HM := Lib.hid (hM.out.succ HD.out (by rw [HK.out]; rfl))
    clear c0 c1 c2 HU HK hM HD hb1
    go_wp2
    go_roundw
    case rel => exact ⟨j + 1, by omega, by go_num, T1, HM⟩
    case measure => (simp [intOf] <;> omega)
   | true =>
    have hwr : b0 < wr.heap.size := World.block_lt_of_cell? _ _ c0
    have c0 := (hb1.cell (p := ⟨b0, off + j * 3, none⟩) hwr).trans c0
    have c1 := (hb1.cell (p := ⟨b0, off + j * 3 + 1, none⟩) hwr).trans c1
    have c2 := (hb1.cell (p := ⟨b0, off + j * 3 + 2, none⟩) hwr).trans c2
    clear hb1
    go_wp2_with fail
    refine (HU.out trivial _).mono ?_
    rintro e w2 ⟨rfl, hb2⟩
    have T2 := T1.on hb2
    clear c0 c1 c2 T1 hb2 HU
    go_upto_region 6 with fail
    obtain ⟨k1, k2, k3⟩ := at2_two w2 u v m q
    have T3 := T2.on k3
    generalize (w2.alloc (.cells #[.int .i64 u, .int .i64 v] 79)).alloc (.cells #[.int .i64 m, .int .i64 q] 79) = W at k1 k2 T3 ⊢
    have c0 := k1.c0
    have c1 := k1.c1
    have c2 := k2.c0
    have c3 := k2.c1
    have c4 := T3.2.c0
    have c5 := T3.2.c1
    have HY := Lib.hid (fun (hh : (u = x ∧ v = y) ∨ (m = x ∧ q = y)) => hM.out.hit HD.out (by rw [HK.out]; simp [eqB_iff]; rcases hh with ⟨rfl, rfl⟩ | ⟨rfl, rfl⟩ <;> simp))
    have HN := Lib.hid (fun (hh : ¬ ((u = x ∧ v = y) ∨ (m = x ∧ q = y))) => hM.out.succ HD.out (by rw [HK.out, Bool.true_and, Bool.eq_false_iff]; intro hc; simp only [Bool.or_eq_true, eqB_iff] at hc; exact hh (by omega)))
    have HT3 := Lib.hid T3
    clear k1 k2 k3 T2 T3 HK hM HD
    go_wp2
    all_goals first
     | (go_ret; rw [HY.out (by omega)]; exact ⟨rfl, HT3.out.1⟩)
     | (refine ⟨⟨j + 1, by omega, by go_num, HT3.out, Lib.hid (HN.out (by omega))⟩, ?_⟩; simp [intOf] <;> omega)
  ·obtain rfl : j = n := by omega
   have HE := Lib.hid (show atI L x y = -1 from Miss.all (by rw [HL.out]; exact hM.out))
   go_wp2
   go_ret
   rw [HE.out]
   exact ⟨rfl, hT.1⟩
end Go.Proofs.YtmajllgfmclcoaaGreatDoor.Til
