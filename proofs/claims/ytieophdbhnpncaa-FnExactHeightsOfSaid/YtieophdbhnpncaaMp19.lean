/- HgrS, HgrT in one text. -/
import Derived.Test.YtieophdbhnpncaaMp18

/- Heights as a row of 81 numbers, pure: a search by a list along free sides, step by step, and what it leaves: no program here. -/
namespace Go.Proofs.Ytieophdbhnpncaa.Hgt
set_option linter.unusedVariables false
set_option linter.unusedSimpArgs false
open Go.RowKit Go.Proofs.Ytieophdbhnpncaa.Base Go.Proofs.Ytieophdbhnpncaa.Pure
open Go.Proofs.Ytieophdbhnpncaa.Bal (piecesN)

/-- whether the point of an index is a corner of a cell. -/
def crnB (xs : List Int) (v : Nat) : Bool := gX xs (v % 9) (v / 9) || gX xs (v % 9 + 1) (v / 9) || gX xs (v % 9) (v / 9 + 1) || gX xs (v % 9 + 1) (v / 9 + 1)
theorem crn_iff {xs : List Int} {v : Nat} : crnB xs v = true ↔ cor xs (v % 9 + 1) (v / 9 + 1) := by
  unfold crnB cor
  simp only [Bool.or_eq_true]
  constructor
  · rintro (((h | h) | h) | h)
    · exact ⟨_, _, h, .inr rfl, .inr rfl⟩
    · exact ⟨_, _, h, .inl rfl, .inr rfl⟩
    · exact ⟨_, _, h, .inr rfl, .inl rfl⟩
    · exact ⟨_, _, h, .inl rfl, .inl rfl⟩
  · rintro ⟨a, b, h, h1, h2⟩
    rcases h1 with h1 | h1 <;> rcases h2 with h2 | h2
    · subst h1; subst h2; exact .inr h
    · subst h1; obtain rfl : b = v / 9 := by omega
      exact .inl (.inl (.inr h))
    · subst h2; obtain rfl : a = v % 9 := by omega
      exact .inl (.inr h)
    · obtain rfl : a = v % 9 := by omega
      obtain rfl : b = v / 9 := by omega
      exact .inl (.inl (.inl h))
/-- the side to the right of a point, and the one below it, bound a cell and do not divide a domino. -/
def frH (xs : List Int) (X : Cx) (v : Nat) : Bool := (gX xs (v % 9 + 1) (v / 9) || gX xs (v % 9 + 1) (v / 9 + 1)) && !X (v % 9 + 1) (v / 9 + 1)
def frV (xs : List Int) (Y : Cx) (v : Nat) : Bool := (gX xs (v % 9) (v / 9 + 1) || gX xs (v % 9 + 1) (v / 9 + 1)) && !Y (v % 9 + 1) (v / 9 + 1)
/-- the four ways from a point: right, down, left, up. -/
def Lk (xs : List Int) (X Y : Cx) (d v w : Nat) : Prop :=
  (d = 0 ∧ v % 9 < 8 ∧ w = v + 1 ∧ frH xs X v = true) ∨ (d = 1 ∧ v / 9 < 8 ∧ w = v + 9 ∧ frV xs Y v = true) ∨ (d = 2 ∧ w % 9 < 8 ∧ v = w + 1 ∧ frH xs X w = true) ∨ (d = 3 ∧ v = w + 9 ∧ frV xs Y w = true)
def es (d v : Nat) : Int := if (v % 9 + v / 9 + d) % 2 = 1 then 1 else -1
theorem es_or (d v : Nat) : es d v = 1 ∨ es d v = -1 := by unfold es; split <;> simp
section
variable {xs : List Int} {X Y : Cx}
theorem fr_H {v : Nat} (h : frH xs X v = true) : (gX xs (v % 9 + 1) (v / 9) = true ∨ gX xs (v % 9 + 1) (v / 9 + 1) = true) ∧ X (v % 9 + 1) (v / 9 + 1) = false := by
  unfold frH at h; simpa [Bool.and_eq_true, Bool.or_eq_true] using h
theorem fr_V {v : Nat} (h : frV xs Y v = true) : (gX xs (v % 9) (v / 9 + 1) = true ∨ gX xs (v % 9 + 1) (v / 9 + 1) = true) ∧ Y (v % 9 + 1) (v / 9 + 1) = false := by
  unfold frV at h; simpa [Bool.and_eq_true, Bool.or_eq_true] using h
theorem gX_lt {i j : Nat} (h : gX xs i j = true) : 1 ≤ i ∧ i ≤ 8 ∧ 1 ≤ j ∧ j ≤ 8 := by
  unfold gX at h
  have := hasB_iff.1 h
  omega
theorem Lk.lt {d v w : Nat} (hv : v < 81) (h : Lk xs X Y d v w) : w < 81 := by
  rcases h with ⟨_, a, rfl, _⟩ | ⟨_, a, rfl, _⟩ | ⟨_, _, e, _⟩ | ⟨_, e, _⟩ <;> omega
theorem Lk.one {d v w w' : Nat} (h : Lk xs X Y d v w) (h' : Lk xs X Y d v w') : w = w' := by
  unfold Lk at h h'; omega
theorem Lk.four {d v w : Nat} (h : Lk xs X Y d v w) : d < 4 := by unfold Lk at h; omega
/-- both ends are corners. -/
theorem Lk.crn {d v w : Nat} (h : Lk xs X Y d v w) : crnB xs v = true ∧ crnB xs w = true := by
  have hor : ∀ v, v % 9 < 8 → frH xs X v = true → crnB xs v = true ∧ crnB xs (v + 1) = true := fun v hv hf => by
    obtain ⟨hg, _⟩ := fr_H hf
    have e1 : (v + 1) % 9 = v % 9 + 1 := by omega
    have e2 : (v + 1) / 9 = v / 9 := by omega
    constructor
    · rcases hg with q | q
      · exact crn_iff.2 ⟨_, _, q, .inl rfl, .inr rfl⟩
      · exact crn_iff.2 ⟨_, _, q, .inl rfl, .inl rfl⟩
    · refine crn_iff.2 ?_
      rw [e1, e2]
      rcases hg with q | q
      · exact ⟨_, _, q, .inr rfl, .inr rfl⟩
      · exact ⟨_, _, q, .inr rfl, .inl rfl⟩
  have ver : ∀ v, frV xs Y v = true → crnB xs v = true ∧ crnB xs (v + 9) = true := fun v hf => by
    obtain ⟨hg, _⟩ := fr_V hf
    have e1 : (v + 9) % 9 = v % 9 := by omega
    have e2 : (v + 9) / 9 = v / 9 + 1 := by omega
    constructor
    · rcases hg with q | q
      · exact crn_iff.2 ⟨_, _, q, .inr rfl, .inl rfl⟩
      · exact crn_iff.2 ⟨_, _, q, .inl rfl, .inl rfl⟩
    · refine crn_iff.2 ?_
      rw [e1, e2]
      rcases hg with q | q
      · exact ⟨_, _, q, .inr rfl, .inr rfl⟩
      · exact ⟨_, _, q, .inl rfl, .inr rfl⟩
  rcases h with ⟨_, a, rfl, f⟩ | ⟨_, a, rfl, f⟩ | ⟨_, a, rfl, f⟩ | ⟨_, rfl, f⟩
  · exact hor v a f
  · exact ver v f
  · exact ⟨(hor w a f).2, (hor w a f).1⟩
  · exact ⟨(ver w f).2, (ver w f).1⟩
/-- the number of a point. -/
def at9 (f : Fm) (v : Nat) : Int := f (v % 9 + 1) (v / 9 + 1)
theorem Lk.step {f : Fm} (hf : Hts (gX xs) X Y f) {d v w : Nat} (h : Lk xs X Y d v w) : at9 f w = at9 f v + es d v := by
  have hor : ∀ v, v % 9 < 8 → frH xs X v = true → at9 f (v + 1) = at9 f v + (if (v % 9 + v / 9) % 2 = 1 then 1 else -1) := fun v hv hq => by
    obtain ⟨hg, hx⟩ := fr_H hq
    have l : v / 9 < 10 := by rcases hg with q | q <;> have := gX_lt q <;> omega
    have e := hf.hor (v % 9 + 1) (v / 9) (by omega) l hg
    unfold at9
    rw [show (v + 1) % 9 = v % 9 + 1 by omega, show (v + 1) / 9 = v / 9 by omega, e]
    unfold wH sg
    rw [hx, show bi false = 0 from rfl]
    split <;> split <;> omega
  have ver : ∀ v, frV xs Y v = true → at9 f (v + 9) = at9 f v + (if (v % 9 + v / 9) % 2 = 0 then 1 else -1) := fun v hq => by
    obtain ⟨hg, hx⟩ := fr_V hq
    have l : v / 9 + 1 < 10 := by rcases hg with q | q <;> have := gX_lt q <;> omega
    have e := hf.ver (v % 9) (v / 9 + 1) (by omega) l hg
    unfold at9
    rw [show (v + 9) % 9 = v % 9 by omega, show (v + 9) / 9 = v / 9 + 1 by omega, e]
    unfold wV sg
    rw [hx, show bi false = 0 from rfl]
    split <;> split <;> omega
  unfold es
  rcases h with ⟨rfl, a, rfl, q⟩ | ⟨rfl, a, rfl, q⟩ | ⟨rfl, a, rfl, q⟩ | ⟨rfl, rfl, q⟩
  · rw [hor v a q]
    split <;> split <;> omega
  · rw [ver v q]
    split <;> split <;> omega
  · rw [hor w a q]
    split <;> split <;> omega
  · rw [ver w q]
    split <;> split <;> omega
/-- the least corner. -/
def lc (xs : List Int) : Nat := ((List.range 81).find? (crnB xs)).getD 0
theorem lc_of {c : Nat} (hc : c < 81) (h : crnB xs c = true) (hl : ∀ v, v < c → crnB xs v = false) : lc xs = c := by
  unfold lc
  have e : (List.range 81).find? (crnB xs) = some c := by
    rw [List.find?_eq_some_iff_getElem]
    refine ⟨h, c, by simpa using hc, by simp, fun j hj => ?_⟩
    rw [List.getElem_range, hl j hj]
    rfl
  rw [e]
  rfl
/-- one height, and the row of all. -/
def hv (xs : List Int) (f : Fm) (v : Nat) : Int := at9 f v - at9 f (lc xs)
def hgL (xs : List Int) (f : Fm) : List Int := (List.range 81).map fun v => if crnB xs v then hv xs f v else -1000
/-- the search: h the heights so far, q the list, of which the first k points are done, and n ways of the next one. -/
structure Sw (xs : List Int) (X Y : Cx) (F : Nat → Int) (h : List Int) (q : List Nat) (k n : Nat) : Prop where
  hl : h.length = 81
  ql : ∀ v ∈ q, v < 81
  qn : q.Nodup
  q0 : q[0]? = some (lc xs)
  yes : ∀ v, v ∈ q → h[v]? = some (F v)
  no : ∀ v, v < 81 → v ∉ q → h[v]? = some (-1000)
  val : ∀ (i v : Nat), q[i]? = some v → -(i : Int) ≤ F v ∧ F v ≤ i
  cr : ∀ v ∈ q, crnB xs v = true
  clo : ∀ (i d v w : Nat), q[i]? = some v → (i < k ∨ (i = k ∧ d < n)) → Lk xs X Y d v w → w ∈ q
  kq : k ≤ q.length
variable {F : Nat → Int} {h : List Int} {q : List Nat} {k n : Nat}
theorem Sw.len (s : Sw xs X Y F h q k n) : q.length ≤ 81 := by
  have h1 := List.Nodup.length_le_of_subset s.qn (l₂ := List.range 81) (fun x hx => List.mem_range.2 (s.ql x hx))
  rwa [List.length_range] at h1
/-- a point has a height just if it is in the list. -/
theorem Sw.is (s : Sw xs X Y F h q k n) {v : Nat} (hv : v < 81) {x : Int} (hx : h[v]? = some x) : x = -1000 ↔ v ∉ q := by
  constructor
  · intro e hm
    rw [s.yes v hm] at hx
    obtain ⟨i, hi⟩ := List.getElem?_of_mem hm
    have l := s.len
    have hi' := List.getElem?_eq_some_iff.1 hi
    obtain ⟨il, _⟩ := hi'
    have := s.val i v hi
    injection hx with hx
    omega
  · intro hm
    rw [s.no v hv hm] at hx
    injection hx with hx
    exact hx.symm
theorem Sw.start (hc : lc xs < 81) (hcr : crnB xs (lc xs) = true) (h0 : F (lc xs) = 0) : Sw xs X Y F ((List.replicate 81 (-1000 : Int)).set (lc xs) 0) [lc xs] 0 0 where
  hl := by simp
  ql := fun v hv => by rw [List.mem_singleton.1 hv]; exact hc
  qn := by simp
  q0 := rfl
  yes := fun v hv => by
    rw [List.mem_singleton.1 hv, List.getElem?_set_self (by simpa using hc), h0]
  no := fun v hv hm => by
    rw [List.getElem?_set_ne (fun e => hm (List.mem_singleton.2 e.symm)), List.getElem?_replicate, if_pos hv]
  val := fun i v hi => by
    have : i = 0 ∧ v = lc xs := by
      cases i with
      | zero => simp at hi; exact ⟨rfl, hi.symm⟩
      | succ i => simp at hi
    obtain ⟨rfl, rfl⟩ := this
    rw [h0]; omega
  cr := fun v hv => by rw [List.mem_singleton.1 hv]; exact hcr
  clo := fun i d v w hi hk hl => by omega
  kq := by simp
theorem Sw.skip (s : Sw xs X Y F h q k n) {v : Nat} (hv : q[k]? = some v) (hw : ∀ w, Lk xs X Y n v w → w ∈ q) : Sw xs X Y F h q k (n + 1) :=
  ⟨s.hl, s.ql, s.qn, s.q0, s.yes, s.no, s.val, s.cr, fun i d u w hi hk hl => by
      by_cases e : i = k ∧ d = n
      · obtain ⟨rfl, rfl⟩ := e
        rw [hv] at hi
        injection hi with hi
        subst hi
        exact hw w hl
      · exact s.clo i d u w hi (by omega) hl, s.kq⟩
theorem Sw.add (s : Sw xs X Y F h q k n) {v w : Nat} (hF : ∀ d v w, Lk xs X Y d v w → F w = F v + es d v) (hv : q[k]? = some v) (hl : Lk xs X Y n v w) (hm : w ∉ q) :
    Sw xs X Y F (h.set w (F v + es n v)) (q ++ [w]) k (n + 1) := by
  have vl := s.ql v (List.mem_of_getElem? hv)
  have wl := hl.lt vl
  have hk : k < q.length := (List.getElem?_eq_some_iff.1 hv).1
  have old : ∀ i u, (q ++ [w])[i]? = some u → (i < q.length ∧ q[i]? = some u) ∨ (i = q.length ∧ u = w) := fun i u hi => by
    by_cases e : i < q.length
    · rw [List.getElem?_append_left e] at hi
      exact .inl ⟨e, hi⟩
    · rw [List.getElem?_append_right (by omega)] at hi
      have : i - q.length = 0 ∧ u = w := by
        cases r : i - q.length with
        | zero => rw [r] at hi; simp at hi; exact ⟨rfl, hi.symm⟩
        | succ j => rw [r] at hi; simp at hi
      exact .inr ⟨by omega, this.2⟩
  refine ⟨?_, ?_, ?_, ?_, ?_, ?_, ?_, ?_, ?_, ?_⟩
  · rw [List.length_set]; exact s.hl
  · intro u hu
    rcases List.mem_append.1 hu with hu | hu
    · exact s.ql u hu
    · rw [List.mem_singleton.1 hu]; exact wl
  · rw [List.nodup_append]
    refine ⟨s.qn, by simp, fun a ha b hb e => hm ?_⟩
    rw [← List.mem_singleton.1 hb, ← e]
    exact ha
  · rw [List.getElem?_append_left (by omega)]; exact s.q0
  · intro u hu
    by_cases e : u = w
    · subst e
      rw [List.getElem?_set_self (by rw [s.hl]; exact wl), hF n v u hl]
    · rcases List.mem_append.1 hu with hu | hu
      · rw [List.getElem?_set_ne (fun r => e r.symm)]
        exact s.yes u hu
      · exact absurd (List.mem_singleton.1 hu) e
  · intro u hu hn
    rw [List.getElem?_set_ne (fun r => hn (by rw [← r]; simp))]
    exact s.no u hu (fun r => hn (List.mem_append_left _ r))
  · intro i u hi
    rcases old i u hi with ⟨e, hi⟩ | ⟨e, rfl⟩
    · exact s.val i u hi
    · have a := s.val k v hv
      have b := hF n v u hl
      rcases es_or n v with c | c <;> omega
  · intro u hu
    rcases List.mem_append.1 hu with hu | hu
    · exact s.cr u hu
    · rw [List.mem_singleton.1 hu]; exact hl.crn.2
  · intro i d u x hi hc hx
    rcases old i u hi with ⟨e, hi⟩ | ⟨e, rfl⟩
    · by_cases r : i = k ∧ d = n
      · obtain ⟨rfl, rfl⟩ := r
        rw [hv] at hi
        injection hi with hi
        subst hi
        rw [hl.one hx]
        simp
      · exact List.mem_append_left _ (s.clo i d u x hi (by omega) hx)
    · omega
  · rw [List.length_append]
    have := s.kq
    omega
theorem Sw.next (s : Sw xs X Y F h q k 4) (hk : k < q.length) : Sw xs X Y F h q (k + 1) 0 :=
  ⟨s.hl, s.ql, s.qn, s.q0, s.yes, s.no, s.val, s.cr, fun i d v w hi hc hl => s.clo i d v w hi (by have := hl.four; omega) hl, hk⟩
/-- at the end, just the corners are in the list. -/
theorem Sw.all (ho : okR xs) (h1 : piecesN xs = 1) (ht : Tl (gX xs) X Y) (s : Sw xs X Y F h q q.length 0) (hcr : crnB xs (lc xs) = true) : ∀ v, v < 81 → (v ∈ q ↔ crnB xs v = true) := by
  have clo : ∀ d v w, v ∈ q → Lk xs X Y d v w → w ∈ q := fun d v w hv hl => by
    obtain ⟨i, hi⟩ := List.getElem?_of_mem hv
    exact s.clo i d v w hi (.inl (List.getElem?_eq_some_iff.1 hi).1) hl
  have l1 : ∀ i j, gX xs i j = true → 1 ≤ i ∧ i ≤ 8 ∧ 1 ≤ j ∧ j ≤ 8 := fun i j => gX_lt
  have key := all_cor ho h1 ht (Z := fun i j => 9 * (j - 1) + (i - 1) ∈ q) (fun i j hg hx => by
    have l : 1 ≤ i ∧ i ≤ 8 ∧ j ≤ 8 := by rcases hg with r | r <;> have := gX_lt r <;> omega
    have e : frH xs X (9 * j + (i - 1)) = true := by
      unfold frH
      rw [show (9 * j + (i - 1)) % 9 + 1 = i by omega, show (9 * j + (i - 1)) / 9 = j by omega, hx]
      rcases hg with r | r <;> rw [r] <;> simp
    have l1 : Lk xs X Y 0 (9 * j + (i - 1)) (9 * j + i) := .inl ⟨rfl, by omega, by omega, e⟩
    have l2 : Lk xs X Y 2 (9 * j + i) (9 * j + (i - 1)) := .inr (.inr (.inl ⟨rfl, by omega, by omega, e⟩))
    have e1 : 9 * (j + 1 - 1) + (i + 1 - 1) = 9 * j + i := by omega
    have e2 : 9 * (j + 1 - 1) + (i - 1) = 9 * j + (i - 1) := by omega
    simp only [e1, e2]
    exact ⟨fun r => clo _ _ _ r l1, fun r => clo _ _ _ r l2⟩) (fun i j hg hx => by
    have l : i ≤ 8 ∧ 1 ≤ j ∧ j ≤ 8 := by rcases hg with r | r <;> have := gX_lt r <;> omega
    have e : frV xs Y (9 * (j - 1) + i) = true := by
      unfold frV
      rw [show (9 * (j - 1) + i) % 9 = i by omega, show (9 * (j - 1) + i) / 9 + 1 = j by omega, hx]
      rcases hg with r | r <;> rw [r] <;> simp
    have l1 : Lk xs X Y 1 (9 * (j - 1) + i) (9 * j + i) := .inr (.inl ⟨rfl, by omega, by omega, e⟩)
    have l2 : Lk xs X Y 3 (9 * j + i) (9 * (j - 1) + i) := .inr (.inr (.inr ⟨rfl, by omega, e⟩))
    have e1 : 9 * (j + 1 - 1) + (i + 1 - 1) = 9 * j + i := by omega
    have e2 : 9 * (j - 1) + (i + 1 - 1) = 9 * (j - 1) + i := by omega
    simp only [e1, e2]
    exact ⟨fun r => clo _ _ _ r l1, fun r => clo _ _ _ r l2⟩) (i := lc xs % 9 + 1) (j := lc xs / 9 + 1) (crn_iff.1 hcr) (by
    have e : 9 * (lc xs / 9 + 1 - 1) + (lc xs % 9 + 1 - 1) = lc xs := by omega
    simp only [e]
    exact List.mem_of_getElem? s.q0)
  exact fun v hv => ⟨s.cr v, fun hb => by
    have r := key _ _ (crn_iff.1 hb)
    have e : 9 * (v / 9 + 1 - 1) + (v % 9 + 1 - 1) = v := by omega
    simp only [e] at r
    exact r⟩
/-- at the end, just the corners have a height. -/
theorem Sw.fin (ho : okR xs) (h1 : piecesN xs = 1) (ht : Tl (gX xs) X Y) {f : Fm} (s : Sw xs X Y (hv xs f) h q q.length 0) (hc : lc xs < 81) (hcr : crnB xs (lc xs) = true) : h = hgL xs f := by
  have mem := s.all ho h1 ht hcr
  refine List.ext_getElem? (fun v => ?_)
  by_cases hv : v < 81
  · unfold hgL
    rw [List.getElem?_map, List.getElem?_range hv]
    show h[v]? = some (if crnB xs v then Hgt.hv xs f v else -1000)
    cases hb : crnB xs v with
    | true => rw [s.yes v ((mem v hv).2 hb)]; rfl
    | false => rw [s.no v hv (fun r => by rw [(mem v hv).1 r] at hb; cases hb)]; rfl
  · rw [List.getElem?_eq_none (by rw [s.hl]; omega), List.getElem?_eq_none (by unfold hgL; simp; omega)]
end
end Go.Proofs.Ytieophdbhnpncaa.Hgt

/- Heights tell the tiling, and a flip changes one of them by four, pure: no program here. -/
namespace Go.Proofs.Ytieophdbhnpncaa.Hgt
set_option linter.unusedVariables false
set_option linter.unusedSimpArgs false
open Go.RowKit Go.Proofs.Ytieophdbhnpncaa.Base Go.Proofs.Ytieophdbhnpncaa.Pure Go.Proofs.Ytieophdbhnpncaa.Cell Go.Proofs.Ytieophdbhnpncaa.Dom Go.Proofs.Ytieophdbhnpncaa.Dms Go.Proofs.Ytieophdbhnpncaa.Til Go.Proofs.Ytieophdbhnpncaa.Grd Go.Proofs.Ytieophdbhnpncaa.Flp Go.Joins
open Go.Proofs.Ytieophdbhnpncaa.Bal (piecesN outsN)

/-- heights of a tiling, as a row: each within 80 of nothing. -/
structure Row9 (xs : List Int) (L : List Dm) (hs : List Int) : Prop where
  ok : okR xs
  one : piecesN xs = 1
  til : tilB xs L = true
  lcl : lc xs < 81
  lcc : crnB xs (lc xs) = true
  f : ∃ f, Hts (gX xs) (xL L) (yL L) f ∧ hs = hgL xs f ∧ ∀ v, v < 81 → crnB xs v = true → -80 ≤ hv xs f v ∧ hv xs f v ≤ 80
theorem Sw.row {xs : List Int} {L : List Dm} {f : Fm} {h : List Int} {q : List Nat} (ho : okR xs) (h1 : piecesN xs = 1) (ht : tilB xs L = true) (hf : Hts (gX xs) (xL L) (yL L) f) (s : Sw xs (xL L) (yL L) (hv xs f) h q q.length 0) (hc : lc xs < 81) (hcr : crnB xs (lc xs) = true) : Row9 xs L h := by
  have e := s.fin ho h1 (tl_of ht) hc hcr
  refine ⟨ho, h1, ht, hc, hcr, f, hf, e, fun v hv hb => ?_⟩
  have hm := (s.all ho h1 (tl_of ht) hcr v hv).2 hb
  obtain ⟨i, hi⟩ := List.getElem?_of_mem hm
  have l := s.len
  have il := (List.getElem?_eq_some_iff.1 hi).1
  have := s.val i v hi
  omega
/-- a height. -/
theorem row_at (xs : List Int) (f : Fm) {v : Nat} (hv : v < 81) : (hgL xs f)[v]? = some (if crnB xs v then Hgt.hv xs f v else -1000) := by
  unfold hgL
  rw [List.getElem?_map, List.getElem?_range hv]
  rfl
theorem row_len (xs : List Int) (f : Fm) : (hgL xs f).length = 81 := by unfold hgL; simp
/-- one row, whatever the numbers. -/
theorem row_uniq {xs : List Int} {L : List Dm} {h h' : List Int} (r : Row9 xs L h) (r' : Row9 xs L h') : h = h' := by
  obtain ⟨f, hf, e, _⟩ := r.f
  obtain ⟨g, hg, e', _⟩ := r'.f
  rw [e, e']
  unfold hgL
  refine List.map_congr_left (fun v hv => ?_)
  cases hb : crnB xs v with
  | false => rfl
  | true =>
    show Hgt.hv xs f v = Hgt.hv xs g v
    exact hts_uniq r.ok r.one (tl_of r.til) hf hg (crn_iff.1 r.lcc) (crn_iff.1 hb)
/-- where the heights of both ends of the side between them differ by 3, a domino lies. -/
def gapA (d : Dm) : Nat := if d.2.2 then 9 * (d.2.1 + 1).toNat + d.1.toNat else 9 * d.2.1.toNat + (d.1 + 1).toNat
def gapB (d : Dm) : Nat := if d.2.2 then 9 * (d.2.1 + 1).toNat + d.1.toNat + 1 else 9 * (d.2.1.toNat + 1) + (d.1 + 1).toNat
theorem gap_dn {xs : List Int} {L : List Dm} {h : List Int} (r : Row9 xs L h) {x y : Int} (h1 : hasB xs x y = true) (h2 : hasB xs x (y + 1) = true) :
    ∃ u v : Int, h[9 * (y + 1).toNat + x.toNat]? = some u ∧ h[9 * (y + 1).toNat + x.toNat + 1]? = some v ∧ (-80 ≤ u ∧ u ≤ 80) ∧ (-80 ≤ v ∧ v ≤ 80) ∧ ((u - v = 3 ∨ v - u = 3) ↔ ((x, y, true) : Dm) ∈ L) := by
  obtain ⟨f, hf, rfl, bd⟩ := r.f
  obtain ⟨a, b, ea, eb, g1⟩ := gX_has h1
  obtain ⟨a', b', ea', eb', g2⟩ := gX_has h2
  obtain rfl : a' = a := by omega
  obtain rfl : b' = b + 1 := by omega
  have l1 := gX_lt g1
  have l2 := gX_lt g2
  have i1 : 9 * (y + 1).toNat + x.toNat = 9 * b + (a' - 1) := by omega
  have c1 : crnB xs (9 * b + (a' - 1)) = true := crn_iff.2 ⟨_, _, g2, .inl (by omega), .inl (by omega)⟩
  have c2 : crnB xs (9 * b + a') = true := crn_iff.2 ⟨_, _, g2, .inr (by omega), .inl (by omega)⟩
  rw [i1, show 9 * b + (a' - 1) + 1 = 9 * b + a' by omega, row_at xs f (by omega), row_at xs f (by omega), c1, c2]
  refine ⟨_, _, rfl, rfl, bd _ (by omega) c1, bd _ (by omega) c2, ?_⟩
  have e := hf.hor a' b (by omega) (by omega) (.inl g1)
  have x1 : at9 f (9 * b + a') = f (a' + 1) (b + 1) := by
    unfold at9
    rw [show (9 * b + a') % 9 = a' by omega, show (9 * b + a') / 9 = b by omega]
  have x2 : at9 f (9 * b + (a' - 1)) = f a' (b + 1) := by
    unfold at9
    rw [show (9 * b + (a' - 1)) % 9 + 1 = a' by omega, show (9 * b + (a' - 1)) / 9 = b by omega]
  have m : xL L a' (b + 1) = true ↔ ((x, y, true) : Dm) ∈ L := by
    rw [xL_iff, show (a' : Int) - 1 = x by omega, show ((b + 1 : Nat) : Int) - 2 = y by omega]
  rw [← m]
  show (hv xs f _ - hv xs f _ = 3 ∨ hv xs f _ - hv xs f _ = 3) ↔ _
  unfold hv
  rw [x1, x2, e]
  unfold wH
  rcases sg_one a' (b + 1) with q | q <;> rw [q] <;> cases xL L a' (b + 1) <;> simp only [bi, if_pos, if_neg] <;> constructor <;> intro z <;> simp_all <;> omega
theorem gap_rt {xs : List Int} {L : List Dm} {h : List Int} (r : Row9 xs L h) {x y : Int} (h1 : hasB xs x y = true) (h2 : hasB xs (x + 1) y = true) :
    ∃ u v : Int, h[9 * y.toNat + (x + 1).toNat]? = some u ∧ h[9 * (y + 1).toNat + (x + 1).toNat]? = some v ∧ (-80 ≤ u ∧ u ≤ 80) ∧ (-80 ≤ v ∧ v ≤ 80) ∧ ((u - v = 3 ∨ v - u = 3) ↔ ((x, y, false) : Dm) ∈ L) := by
  obtain ⟨f, hf, rfl, bd⟩ := r.f
  obtain ⟨a, b, ea, eb, g1⟩ := gX_has h1
  obtain ⟨a', b', ea', eb', g2⟩ := gX_has h2
  obtain rfl : a' = a + 1 := by omega
  obtain rfl : b' = b := by omega
  have l1 := gX_lt g1
  have l2 := gX_lt g2
  have i1 : 9 * y.toNat + (x + 1).toNat = 9 * (b' - 1) + a := by omega
  have i2 : 9 * (y + 1).toNat + (x + 1).toNat = 9 * b' + a := by omega
  have c1 : crnB xs (9 * (b' - 1) + a) = true := crn_iff.2 ⟨_, _, g2, .inl (by omega), .inl (by omega)⟩
  have c2 : crnB xs (9 * b' + a) = true := crn_iff.2 ⟨_, _, g2, .inl (by omega), .inr (by omega)⟩
  rw [i1, i2, row_at xs f (by omega), row_at xs f (by omega), c1, c2]
  refine ⟨_, _, rfl, rfl, bd _ (by omega) c1, bd _ (by omega) c2, ?_⟩
  have e := hf.ver a b' (by omega) (by omega) (.inl g1)
  have x1 : at9 f (9 * b' + a) = f (a + 1) (b' + 1) := by
    unfold at9
    rw [show (9 * b' + a) % 9 = a by omega, show (9 * b' + a) / 9 = b' by omega]
  have x2 : at9 f (9 * (b' - 1) + a) = f (a + 1) b' := by
    unfold at9
    rw [show (9 * (b' - 1) + a) % 9 = a by omega, show (9 * (b' - 1) + a) / 9 + 1 = b' by omega]
  have m : yL L (a + 1) b' = true ↔ ((x, y, false) : Dm) ∈ L := by
    rw [yL_iff, show ((a + 1 : Nat) : Int) - 2 = x by omega, show (b' : Int) - 1 = y by omega]
  rw [← m]
  show (hv xs f _ - hv xs f _ = 3 ∨ hv xs f _ - hv xs f _ = 3) ↔ _
  unfold hv
  rw [x1, x2, e]
  unfold wV
  rcases sg_one (a + 1) b' with q | q <;> rw [q] <;> cases yL L (a + 1) b' <;> simp only [bi, if_pos, if_neg] <;> constructor <;> intro z <;> simp_all <;> omega
/-- the four sides at a pair that is turned. -/
theorem has_sides {xs : List Int} {L : List Dm} {x y : Int} {b : Bool} (hL : tilB xs L = true) (hb : has2 L x y b = true) {a c : Nat} (ha : (a : Int) = x + 1) (hc : (c : Int) = y + 1) :
    (xL L a (c + 1) = b ∧ xL L (a + 1) (c + 1) = b) ∧ yL L (a + 1) c = (!b) ∧ yL L (a + 1) (c + 1) = (!b) := by
  have tL := tl_of hL
  obtain ⟨m1, m2⟩ := has2_iff.1 hb
  cases b with
  | false =>
    have h : yL L (a + 1) c = true ∧ yL L (a + 1) (c + 1) = true := by
      refine ⟨yL_iff.2 ?_, yL_iff.2 ?_⟩
      · unfold pr1 at m1; rw [show ((a + 1 : Nat) : Int) - 2 = x by omega, show (c : Int) - 1 = y by omega]; exact m1
      · unfold pr2 at m2; rw [if_neg (by simp)] at m2; rw [show ((a + 1 : Nat) : Int) - 2 = x by omega, show ((c + 1 : Nat) : Int) - 1 = y + 1 by omega]; exact m2
    exact ⟨pair_Y tL h.1 h.2, h⟩
  | true =>
    have h : xL L a (c + 1) = true ∧ xL L (a + 1) (c + 1) = true := by
      refine ⟨xL_iff.2 ?_, xL_iff.2 ?_⟩
      · unfold pr1 at m1; rw [show (a : Int) - 1 = x by omega, show ((c + 1 : Nat) : Int) - 2 = y by omega]; exact m1
      · unfold pr2 at m2; rw [if_pos rfl] at m2; rw [show ((a + 1 : Nat) : Int) - 1 = x + 1 by omega, show ((c + 1 : Nat) : Int) - 2 = y by omega]; exact m2
    exact ⟨h, pair_X tL h.1 h.2⟩
/-- heights of the tiling with a pair turned. -/
theorem flip_hts {xs : List Int} {L : List Dm} {f : Fm} (hL : tilB xs L = true) (hf : Hts (gX xs) (xL L) (yL L) f) {x y : Int} {b : Bool} (h6 : 0 ≤ x ∧ x ≤ 6 ∧ 0 ≤ y ∧ y ≤ 6) (hb : has2 L x y b = true) {a c : Nat} (ha : (a : Int) = x + 1) (hc : (c : Int) = y + 1) :
    Hts (gX xs) (xL (turn L x y b)) (yL (turn L x y b)) (setE f (a + 1) (c + 1) (4 * (sg a (c + 1) * (bi (!b) - bi b)))) := by
  obtain ⟨e1, e2⟩ := turn_X (xs := xs) (L := L) (b := b) (part_valid (til_part hL)) h6 ha hc
  obtain ⟨⟨s1, s2⟩, s3, s4⟩ := has_sides hL hb ha hc
  rw [e1, e2]
  have g1 := sg_r a (c + 1)
  have g2 := sg_r a c
  have g3 := sg_d a c
  constructor
  · intro i j hi hj hg
    have o := hf.hor i j hi hj hg
    by_cases q : j = c ∧ (i = a ∨ i = a + 1)
    · obtain ⟨rfl, q⟩ := q
      rcases q with rfl | rfl
      · rw [setE_at, setE_ne (by omega), o]
        unfold wH flX
        rw [if_pos ⟨.inl rfl, rfl⟩, s1]
        rcases sg_one i (j + 1) with w | w <;> rw [w] <;> cases b <;> simp only [bi] <;> simp <;> omega
      · rw [setE_ne (by omega), setE_at, o]
        unfold wH flX
        rw [if_pos ⟨.inr rfl, rfl⟩, s2, g1]
        rcases sg_one a (j + 1) with w | w <;> rw [w] <;> cases b <;> simp only [bi] <;> simp <;> omega
    · rw [setE_ne (by omega), setE_ne (by omega), o]
      unfold wH flX
      rw [if_neg (by omega)]
  · intro i j hi hj hg
    have o := hf.ver i j hi hj hg
    by_cases q : i = a ∧ (j = c ∨ j = c + 1)
    · obtain ⟨rfl, q⟩ := q
      rcases q with rfl | rfl
      · rw [setE_at, setE_ne (by omega), o]
        unfold wV flY
        rw [if_pos ⟨rfl, .inl rfl⟩, s3, g2, g3]
        rcases sg_one i j with w | w <;> rw [w] <;> cases b <;> simp only [bi] <;> simp <;> omega
      · rw [setE_ne (by omega), setE_at, o]
        unfold wV flY
        rw [if_pos ⟨rfl, .inr rfl⟩, s4, g1]
        rcases sg_one i (c + 1) with w | w <;> rw [w] <;> cases b <;> simp only [bi] <;> simp <;> omega
    · rw [setE_ne (by omega), setE_ne (by omega), o]
      unfold wV flY
      rw [if_neg (by omega)]
/-- a flip changes one height, by four. -/
theorem flip_row {xs : List Int} {L : List Dm} {h h' : List Int} {x y : Int} {b : Bool} (r : Row9 xs L h) (r' : Row9 xs (turn L x y b) h') (h6 : 0 ≤ x ∧ x ≤ 6 ∧ 0 ≤ y ∧ y ≤ 6) (hb : has2 L x y b = true) :
    ∃ (k : Nat) (u s : Int), k < 81 ∧ (s = 4 ∨ s = -4) ∧ (-80 ≤ u ∧ u ≤ 80) ∧ h[k]? = some u ∧ h' = h.set k (u + s) := by
  obtain ⟨f, hf, e, bd⟩ := r.f
  obtain ⟨g, hg, e', bd'⟩ := r'.f
  obtain ⟨a, ha⟩ : ∃ a : Nat, (a : Int) = x + 1 := ⟨(x + 1).toNat, by omega⟩
  obtain ⟨c, hc⟩ : ∃ c : Nat, (c : Int) = y + 1 := ⟨(y + 1).toNat, by omega⟩
  have hf' := flip_hts r.til hf h6 hb ha hc
  obtain ⟨⟨s1, s2⟩, s3, s4⟩ := has_sides r.til hb ha hc
  have tL := tl_of r.til
  -- the cell above and to the left is the region's
  have g0 : gX xs a c = true := by
    cases b with
    | true => exact (tL.dn a c s1).1
    | false => exact (tL.rt a c s3).1
  have l0 := gX_lt g0
  have ck : crnB xs (9 * c + a) = true := crn_iff.2 ⟨_, _, g0, .inr (by omega), .inr (by omega)⟩
  have c0 : crnB xs (9 * (c - 1) + (a - 1)) = true := crn_iff.2 ⟨_, _, g0, .inl (by omega), .inl (by omega)⟩
  have hlc : lc xs ≤ 9 * (c - 1) + (a - 1) := by
    refine Classical.byContradiction fun hn => ?_
    have : crnB xs (9 * (c - 1) + (a - 1)) = false := by
      have h1 := r.lcl
      unfold lc at hn h1
      cases q : (List.range 81).find? (crnB xs) with
      | none => rw [q] at hn; simp at hn
      | some m =>
        rw [q] at hn
        simp only [Option.getD_some] at hn
        obtain ⟨_, i, hi, e, hl⟩ := List.find?_eq_some_iff_getElem.1 q
        rw [List.getElem_range] at e
        have := hl (9 * (c - 1) + (a - 1)) (by omega)
        rw [List.getElem_range] at this
        simpa using this
    rw [c0] at this
    cases this
  refine ⟨9 * c + a, Hgt.hv xs f (9 * c + a), 4 * (sg a (c + 1) * (bi (!b) - bi b)), by omega, ?_, bd _ (by omega) ck, ?_, ?_⟩
  · rcases sg_one a (c + 1) with w | w <;> rw [w] <;> cases b <;> simp [bi]
  · rw [e, row_at xs f (by omega), ck]; rfl
  · have e2 : h' = hgL xs (setE f (a + 1) (c + 1) (4 * (sg a (c + 1) * (bi (!b) - bi b)))) := by
      rw [e']
      unfold hgL
      refine List.map_congr_left (fun v hv => ?_)
      cases hb' : crnB xs v with
      | false => rfl
      | true =>
        show Hgt.hv xs g v = Hgt.hv xs _ v
        exact hts_uniq r.ok r.one (tl_of r'.til) hg hf' (crn_iff.1 r.lcc) (crn_iff.1 hb')
    rw [e2, e]
    refine List.ext_getElem? (fun v => ?_)
    by_cases hv : v < 81
    · rw [row_at xs _ hv]
      have z : at9 (setE f (a + 1) (c + 1) (4 * (sg a (c + 1) * (bi (!b) - bi b)))) (lc xs) = at9 f (lc xs) := by
        unfold at9
        rw [setE_ne (by omega)]
      by_cases q : v = 9 * c + a
      · subst q
        rw [List.getElem?_set_self (by rw [row_len]; omega), ck]
        show some (Hgt.hv xs _ _) = _
        unfold Hgt.hv
        rw [z]
        unfold at9
        rw [show (9 * c + a) % 9 = a by omega, show (9 * c + a) / 9 = c by omega, setE_at]
        congr 1
        omega
      · rw [List.getElem?_set_ne (fun k => q k.symm), row_at xs f hv]
        cases hb' : crnB xs v with
        | false => rfl
        | true =>
          show some (Hgt.hv xs _ _) = some (Hgt.hv xs _ _)
          unfold Hgt.hv
          rw [z]
          unfold at9
          rw [setE_ne (by omega)]
    · rw [List.getElem?_eq_none (by rw [row_len]; omega), List.getElem?_eq_none (by rw [List.length_set, row_len]; omega)]
end Go.Proofs.Ytieophdbhnpncaa.Hgt
