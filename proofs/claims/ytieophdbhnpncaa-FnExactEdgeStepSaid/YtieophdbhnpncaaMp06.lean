/- Kun in one text. -/
import Derived.Test.YtieophdbhnpncaaMp05

/- Ways that alternate, pure: from each black cell in turn a way is looked for; what is joined at the end is a greatest matching: no program here. -/
namespace Go.Proofs.Ytieophdbhnpncaa.Kun
set_option linter.unusedVariables false
set_option linter.unusedSimpArgs false
open Go.Proofs.Ytieophdbhnpncaa.Cnt (adj adj_iff adj_comm)

/-- the neighbors of a place, in order. -/
def nbN (v : Nat) : List Nat := (List.range 64).filter (adj v)
theorem mem_nbN {v i : Nat} : i ∈ nbN v ↔ i < 64 ∧ adj v i = true := by unfold nbN; rw [List.mem_filter, List.mem_range]
/-- one value is put. -/
def put {α : Type} (J : Nat → α) (i : Nat) (x : α) : Nat → α := fun k => if k = i then x else J k
theorem put_at {α : Type} (J : Nat → α) (i : Nat) (x : α) : put J i x i = x := if_pos rfl
theorem put_ne {α : Type} {J : Nat → α} {i k : Nat} {x : α} (h : k ≠ i) : put J i x k = J k := if_neg h
/-- the answer of a search: was a way found, what is joined, what was seen. -/
abbrev Ans := Bool × (Nat → Int) × (Nat → Bool)
/-- the neighbors are tried in turn. -/
def tryF (g : Nat → Bool) (rec : (Nat → Int) → (Nat → Bool) → Nat → Ans) (v : Nat) : List Nat → (Nat → Int) → (Nat → Bool) → Ans
  | [], J, Z => (false, J, Z)
  | i :: r, J, Z =>
    if g i = false ∨ Z i = true then tryF g rec v r J Z
    else if J i < 0 then (true, put J i (v : Int), put Z i true)
    else match rec J (put Z i true) (J i).toNat with
      | (true, J2, Z2) => (true, put J2 i (v : Int), Z2)
      | (false, J2, Z2) => tryF g rec v r J2 Z2
/-- the search from a black cell. -/
def findF (g : Nat → Bool) : Nat → (Nat → Int) → (Nat → Bool) → Nat → Ans
  | 0, J, Z, _ => (false, J, Z)
  | f + 1, J, Z, v => tryF g (findF g f) v (nbN v) J Z
/-- how many places of g are not seen. -/
def uns (g Z : Nat → Bool) : Nat := ((List.range 64).filter (fun i => g i && !Z i)).length
theorem filter_le {α : Type} {p q : α → Bool} (h : ∀ x, p x = true → q x = true) : ∀ (l : List α), (l.filter p).length ≤ (l.filter q).length
  | [] => Nat.le_refl _
  | x :: r => by
    have := filter_le h r
    by_cases a : p x = true
    · rw [List.filter_cons_of_pos a, List.filter_cons_of_pos (h x a)]; simpa using this
    · rw [List.filter_cons_of_neg a]
      by_cases b : q x = true
      · rw [List.filter_cons_of_pos b]; simp; omega
      · rw [List.filter_cons_of_neg b]; exact this
theorem filter_lt {α : Type} {p q : α → Bool} (h : ∀ x, p x = true → q x = true) {a : α} (hp : p a = false) (hq : q a = true) : ∀ (l : List α), a ∈ l → (l.filter p).length < (l.filter q).length
  | [], hm => by cases hm
  | x :: r, hm => by
    by_cases e : x = a
    · subst e
      rw [List.filter_cons_of_neg (by rw [hp]; simp), List.filter_cons_of_pos hq]
      have := filter_le h r
      simp; omega
    · have hr : a ∈ r := by
        rcases List.mem_cons.1 hm with q' | q'
        · exact absurd q'.symm e
        · exact q'
      have := filter_lt h hp hq r hr
      by_cases c : p x = true
      · rw [List.filter_cons_of_pos c, List.filter_cons_of_pos (h x c)]; simpa using this
      · rw [List.filter_cons_of_neg c]
        by_cases b : q x = true
        · rw [List.filter_cons_of_pos b]; simp; omega
        · rw [List.filter_cons_of_neg b]; exact this
theorem uns_le {g Z Z' : Nat → Bool} (h : ∀ i, Z i = true → Z' i = true) : uns g Z' ≤ uns g Z := filter_le (fun i hi => by
  rw [Bool.and_eq_true] at hi ⊢
  refine ⟨hi.1, ?_⟩
  cases hz : Z i with
  | false => rfl
  | true => rw [h i hz] at hi; simp at hi) _
theorem uns_put {g Z : Nat → Bool} {i : Nat} (hi : i < 64) (hg : g i = true) (hz : Z i = false) : uns g (put Z i true) < uns g Z :=
  filter_lt (fun k hk => by
    rw [Bool.and_eq_true] at hk ⊢
    refine ⟨hk.1, ?_⟩
    by_cases e : k = i
    · subst e; rw [hz]; rfl
    · rw [put_ne e] at hk; exact hk.2) (a := i) (by rw [put_at]; simp) (by rw [hg, hz]; rfl) _ (List.mem_range.2 hi)
/-- what is joined: neighbors of the set, black and white. -/
structure Mt (g col : Nat → Bool) (J : Nat → Int) : Prop where
  low : ∀ i, -1 ≤ J i
  ok : ∀ i, 0 ≤ J i → i < 64 ∧ g i = true ∧ col i = false ∧ (J i).toNat < 64 ∧ g (J i).toNat = true ∧ col (J i).toNat = true ∧ adj (J i).toNat i = true
/-- a set of places that the neighbors of a black place belong to. -/
def Shut (g : Nat → Bool) (Z : Nat → Bool) (v : Nat) : Prop := ∀ i, i < 64 → adj v i = true → g i = true → Z i = true
/-- the search has found no way: what was seen is joined, and shut. -/
def Fail (g : Nat → Bool) (J : Nat → Int) (Z : Nat → Bool) (J' : Nat → Int) (Z' : Nat → Bool) : Prop :=
  J' = J ∧ ∀ i, Z' i = true → Z i = true ∨ (0 ≤ J i ∧ Shut g Z' (J i).toNat)
/-- the search has found a way: the black cell v is joined, too; nothing that was seen before is turned. -/
structure Good (g : Nat → Bool) (v : Nat) (J : Nat → Int) (Z : Nat → Bool) (J' : Nat → Int) : Prop where
  old : ∀ i, Z i = true → J' i = J i
  inj : ∀ i k, Z i = false → Z k = false → 0 ≤ J' i → J' i = J' k → i = k
  img : ∀ i, Z i = false → 0 ≤ J' i → J' i = (v : Int) ∨ ∃ k, Z k = false ∧ J k = J' i
  one : ∃ a, Z a = false ∧ J a < 0 ∧ 0 ≤ J' a ∧ ∀ i, i ≠ a → (0 ≤ J' i ↔ 0 ≤ J i)
/-- what a search leaves. -/
def Spec (g col : Nat → Bool) (v : Nat) (J : Nat → Int) (Z : Nat → Bool) (r : Ans) : Prop :=
  (∀ i, Z i = true → r.2.2 i = true) ∧ Mt g col r.2.1 ∧ ((r.1 = false ∧ Fail g J Z r.2.1 r.2.2) ∨ (r.1 = true ∧ Good g v J Z r.2.1))
/-- before it: no two places that were not seen are joined to the same black cell, none to v. -/
structure Pre (g col : Nat → Bool) (v : Nat) (J : Nat → Int) (Z : Nat → Bool) : Prop where
  mt : Mt g col J
  inj : ∀ i k, Z i = false → Z k = false → 0 ≤ J i → J i = J k → i = k
  free : ∀ i, Z i = false → J i ≠ (v : Int)
  v64 : v < 64
  vg : g v = true
  vc : col v = true
theorem Shut.mono {g Z Z' : Nat → Bool} {v : Nat} (h : Shut g Z v) (hz : ∀ i, Z i = true → Z' i = true) : Shut g Z' v := fun i h1 h2 h3 => hz i (h i h1 h2 h3)
/-- a place is joined to v. -/
theorem Mt.put {g col : Nat → Bool} {J : Nat → Int} {i v : Nat} (h : Mt g col J) (hi : i < 64) (hg : g i = true) (hc : col i = false) (hv : v < 64) (hvg : g v = true) (hvc : col v = true) (ha : adj v i = true) : Mt g col (put J i (v : Int)) := by
  refine ⟨fun k => ?_, fun k hk => ?_⟩
  · by_cases e : k = i
    · subst e; rw [put_at]; omega
    · rw [put_ne e]; exact h.low k
  · by_cases e : k = i
    · subst e
      rw [put_at, Int.toNat_natCast]
      exact ⟨hi, hg, hc, hv, hvg, hvc, ha⟩
    · rw [put_ne e] at hk ⊢; exact h.ok k hk
theorem not_true {b : Bool} (h : b = true → False) : b = false := by
  cases b
  · rfl
  · exact absurd (h rfl) id
theorem tryF_spec {g col : Nat → Bool} {rec : (Nat → Int) → (Nat → Bool) → Nat → Ans} {v f : Nat} (hcol : ∀ a b, a < 64 → b < 64 → adj a b = true → col a = !col b)
    (hrec : ∀ J Z u, Pre g col u J Z → uns g Z < f → Spec g col u J Z (rec J Z u) ∧ ((rec J Z u).1 = false → Shut g (rec J Z u).2.2 u)) :
    ∀ (l : List Nat) (J : Nat → Int) (Z : Nat → Bool), (∀ i ∈ l, i < 64 ∧ adj v i = true) → Pre g col v J Z → uns g Z < f + 1 →
      Spec g col v J Z (tryF g rec v l J Z) ∧ ((tryF g rec v l J Z).1 = false → ∀ i ∈ l, g i = true → (tryF g rec v l J Z).2.2 i = true)
  | [], J, Z, _, hp, _ => ⟨⟨fun i h => h, hp.mt, .inl ⟨rfl, rfl, fun i h => .inl h⟩⟩, fun _ i hi => by cases hi⟩
  | i :: r, J, Z, hl, hp, hu => by
    obtain ⟨hi, ha⟩ := hl i (by simp)
    have hlr : ∀ k ∈ r, k < 64 ∧ adj v k = true := fun k hk => hl k (by simp [hk])
    unfold tryF
    by_cases h1 : g i = false ∨ Z i = true
    · rw [if_pos h1]
      obtain ⟨s1, s2⟩ := tryF_spec hcol hrec r J Z hlr hp hu
      refine ⟨s1, fun hf k hk hg => ?_⟩
      rcases List.mem_cons.1 hk with rfl | hk
      · rcases h1 with q | q
        · rw [q] at hg; cases hg
        · exact s1.1 k q
      · exact s2 hf k hk hg
    · rw [if_neg h1]
      have hgi : g i = true := by
        cases q : g i with
        | true => rfl
        | false => exact absurd (.inl q) h1
      have hzi : Z i = false := by
        cases q : Z i with
        | false => rfl
        | true => exact absurd (.inr q) h1
      have hci : col i = false := by
        have := hcol v i hp.v64 hi ha
        rw [hp.vc] at this
        cases q : col i with
        | false => rfl
        | true => rw [q] at this; cases this
      have hzm : ∀ k, Z k = true → put Z i true k = true := fun k hk => by
        by_cases e : k = i
        · subst e; exact put_at _ _ _
        · rw [put_ne e]; exact hk
      by_cases h2 : J i < 0
      · rw [if_pos h2]
        refine ⟨⟨hzm, hp.mt.put hi hgi hci hp.v64 hp.vg hp.vc ha, .inr ⟨rfl, ?_⟩⟩, fun hf => by cases hf⟩
        refine ⟨fun k hk => ?_, fun a b ha' hb' h0 he => ?_, fun k hk h0 => ?_, i, hzi, h2, ?_, fun k hk => ?_⟩
        · exact put_ne (fun e => by subst e; rw [hzi] at hk; cases hk)
        · by_cases e1 : a = i
          · by_cases e2 : b = i
            · rw [e1, e2]
            · subst e1
              change put J a (v : Int) a = put J a (v : Int) b at he
              rw [put_at, put_ne e2] at he
              exact absurd he.symm (hp.free b hb')
          · change put J i (v : Int) a = put J i (v : Int) b at he
            change 0 ≤ put J i (v : Int) a at h0
            rw [put_ne e1] at he h0
            by_cases e2 : b = i
            · subst e2
              rw [put_at] at he
              exact absurd he (hp.free a ha')
            · rw [put_ne e2] at he
              exact hp.inj a b ha' hb' h0 he
        · by_cases e : k = i
          · left; subst e; exact put_at _ _ _
          · right; exact ⟨k, hk, (put_ne e).symm⟩
        · show 0 ≤ put J i (v : Int) i
          rw [put_at]; omega
        · show 0 ≤ put J i (v : Int) k ↔ _
          rw [put_ne hk]
      · rw [if_neg h2]
        have h0 : 0 ≤ J i := by omega
        obtain ⟨_, _, _, d64, dg, dc, da⟩ := hp.mt.ok i h0
        have hpd : Pre g col (J i).toNat J (put Z i true) := by
          refine ⟨hp.mt, fun a b ha' hb' h3 he => ?_, fun a ha' he => ?_, d64, dg, dc⟩
          · have ea : a ≠ i := fun e => by subst e; rw [put_at] at ha'; cases ha'
            have eb : b ≠ i := fun e => by subst e; rw [put_at] at hb'; cases hb'
            rw [put_ne ea] at ha'
            rw [put_ne eb] at hb'
            exact hp.inj a b ha' hb' h3 he
          · have ea : a ≠ i := fun e => by subst e; rw [put_at] at ha'; cases ha'
            rw [put_ne ea] at ha'
            rw [Int.toNat_of_nonneg h0] at he
            exact ea (hp.inj a i ha' hzi (by omega) he)
        have hud : uns g (put Z i true) < f := by have := uns_put (Z := Z) hi hgi hzi; omega
        obtain ⟨⟨q1, q2, q3⟩, q5⟩ := hrec J (put Z i true) (J i).toNat hpd hud
        cases hres : rec J (put Z i true) (J i).toNat with
        | mk b rest =>
          obtain ⟨J2, Z2⟩ := rest
          rw [hres] at q1 q2 q3 q5
          simp only at q1 q2 q3 q5
          have hz2 : ∀ k, Z k = true → Z2 k = true := fun k hk => q1 k (hzm k hk)
          have hzi2 : Z2 i = true := q1 i (put_at _ _ _)
          cases b with
          | true =>
            have q3 : Good g (J i).toNat J (put Z i true) J2 := by
              rcases q3 with ⟨q, _⟩ | ⟨_, q⟩
              · cases q
              · exact q
            refine ⟨⟨hz2, q2.put hi hgi hci hp.v64 hp.vg hp.vc ha, .inr ⟨rfl, ?_⟩⟩, fun hf => by cases hf⟩
            have hpz : ∀ k, Z k = false → k ≠ i → put Z i true k = false := fun k hk e => by rw [put_ne e]; exact hk
            -- nothing of v among what the search has left
            have hnov : ∀ k, Z k = false → k ≠ i → J2 k ≠ (v : Int) := fun k hk e hv => by
              rcases q3.img k (hpz k hk e) (by rw [hv]; omega) with q | ⟨m, m1, m2⟩
              · rw [hv, Int.toNat_of_nonneg h0] at q
                exact hp.free i hzi q.symm
              · have em : m ≠ i := fun e => by subst e; rw [put_at] at m1; cases m1
                rw [put_ne em] at m1
                exact hp.free m m1 (m2.trans hv)
            refine ⟨fun k hk => ?_, fun a b ha' hb' h3 he => ?_, fun k hk h3 => ?_, ?_⟩
            · have e : k ≠ i := fun e => by subst e; rw [hzi] at hk; cases hk
              show put J2 i (v : Int) k = J k
              rw [put_ne e]; exact q3.old k (hzm k hk)
            · change 0 ≤ put J2 i (v : Int) a at h3
              change put J2 i (v : Int) a = put J2 i (v : Int) b at he
              by_cases e1 : a = i
              · by_cases e2 : b = i
                · rw [e1, e2]
                · subst e1
                  rw [put_at, put_ne e2] at he
                  exact absurd he.symm (hnov b hb' e2)
              · rw [put_ne e1] at h3 he
                by_cases e2 : b = i
                · subst e2
                  rw [put_at] at he
                  exact absurd he (hnov a ha' e1)
                · rw [put_ne e2] at he
                  exact q3.inj a b (hpz a ha' e1) (hpz b hb' e2) h3 he
            · change 0 ≤ put J2 i (v : Int) k at h3
              show put J2 i (v : Int) k = _ ∨ ∃ m, Z m = false ∧ J m = put J2 i (v : Int) k
              by_cases e : k = i
              · left; subst e; exact put_at _ _ _
              · rw [put_ne e] at h3 ⊢
                right
                rcases q3.img k (hpz k hk e) h3 with q | ⟨m, m1, m2⟩
                · exact ⟨i, hzi, by rw [q, Int.toNat_of_nonneg h0]⟩
                · have em : m ≠ i := fun e => by subst e; rw [put_at] at m1; cases m1
                  rw [put_ne em] at m1
                  exact ⟨m, m1, m2⟩
            · obtain ⟨a, a1, a2, a3, a4⟩ := q3.one
              have ea : a ≠ i := fun e => by subst e; rw [put_at] at a1; cases a1
              rw [put_ne ea] at a1
              refine ⟨a, a1, a2, ?_, fun k hk => ?_⟩
              · show 0 ≤ put J2 i (v : Int) a
                rw [put_ne ea]; exact a3
              · show 0 ≤ put J2 i (v : Int) k ↔ 0 ≤ J k
                by_cases e : k = i
                · subst e
                  rw [put_at]
                  exact ⟨fun _ => h0, fun _ => by omega⟩
                · rw [put_ne e]; exact a4 k hk
          | false =>
            have q3 : Fail g J (put Z i true) J2 Z2 ∧ True := by
              rcases q3 with ⟨_, q⟩ | ⟨q, _⟩
              · exact ⟨q, trivial⟩
              · cases q
            obtain ⟨⟨rfl, q4⟩, _⟩ := q3
            have hp2 : Pre g col v J2 Z2 := by
              refine ⟨hp.mt, fun a b ha' hb' h3 he => hp.inj a b ?_ ?_ h3 he, fun a ha' => hp.free a ?_, hp.v64, hp.vg, hp.vc⟩
              all_goals
                first
                  | (cases q : Z a with
                     | false => rfl
                     | true => rw [hz2 a q] at ha'; cases ha')
                  | (cases q : Z b with
                     | false => rfl
                     | true => rw [hz2 b q] at hb'; cases hb')
            have hu2 : uns g Z2 < f + 1 := Nat.lt_of_le_of_lt (uns_le hz2) hu
            have hsh := q5 rfl
            obtain ⟨⟨t1, t2, t3⟩, t4⟩ := tryF_spec hcol hrec r J2 Z2 hlr hp2 hu2
            show Spec g col v J2 Z (tryF g rec v r J2 Z2) ∧ ((tryF g rec v r J2 Z2).1 = false → ∀ k ∈ i :: r, g k = true → (tryF g rec v r J2 Z2).2.2 k = true)
            generalize tryF g rec v r J2 Z2 = res at t1 t2 t3 t4
            obtain ⟨rb, J', Z'⟩ := res
            simp only at t1 t2 t3 t4
            refine ⟨⟨fun k hk => t1 k (hz2 k hk), t2, ?_⟩, fun hf k hk hg => ?_⟩
            · change (rb = false ∧ Fail g J2 Z J' Z') ∨ (rb = true ∧ Good g v J2 Z J')
              have unz : ∀ k, Z2 k = false → Z k = false := fun k hk => not_true (fun q => by rw [hz2 k q] at hk; cases hk)
              rcases t3 with ⟨e, rfl, q6⟩ | ⟨e, q6⟩
              · refine .inl ⟨e, rfl, fun k hk => ?_⟩
                rcases q6 k hk with q | q
                · rcases q4 k q with q' | ⟨q7, q8⟩
                  · by_cases ek : k = i
                    · right; subst ek; exact ⟨h0, hsh.mono t1⟩
                    · rw [put_ne ek] at q'; exact .inl q'
                  · exact .inr ⟨q7, q8.mono t1⟩
                · exact .inr q
              · refine .inr ⟨e, fun k hk => q6.old k (hz2 k hk), fun a b ha' hb' h3 he => ?_, fun k hk h3 => ?_, ?_⟩
                · have key : ∀ a b, Z a = false → Z b = false → Z2 a = false → Z2 b = true → 0 ≤ J' a → J' a = J' b → False := fun a b ha' hb' ha2 hb2 h3 he => by
                    have e1 := q6.old b hb2
                    rcases q6.img a ha2 h3 with q | ⟨m, m1, m2⟩
                    · exact hp.free b hb' (by rw [← e1, ← he, q])
                    · have em := hp.inj m b (unz m m1) hb' (by omega) (by rw [m2, he, e1])
                      subst em
                      rw [hb2] at m1; cases m1
                  cases ca : Z2 a with
                  | false =>
                    cases cb : Z2 b with
                    | false => exact q6.inj a b ca cb h3 he
                    | true => exact absurd (key a b ha' hb' ca cb h3 he) id
                  | true =>
                    cases cb : Z2 b with
                    | false => exact absurd (key b a hb' ha' cb ca (by omega) he.symm) id
                    | true =>
                      have e1 := q6.old a ca
                      have e2 := q6.old b cb
                      exact hp.inj a b ha' hb' (by omega) (by rw [← e1, ← e2, he])
                · cases ck : Z2 k with
                  | true => exact .inr ⟨k, hk, (q6.old k ck).symm⟩
                  | false =>
                    rcases q6.img k ck h3 with q | ⟨m, m1, m2⟩
                    · exact .inl q
                    · exact .inr ⟨m, unz m m1, m2⟩
                · obtain ⟨a, a1, a2⟩ := q6.one
                  exact ⟨a, unz a a1, a2⟩
            · rcases List.mem_cons.1 hk with rfl | hk
              · exact t1 k hzi2
              · exact t4 hf k hk hg
theorem findF_spec {g col : Nat → Bool} (hcol : ∀ a b, a < 64 → b < 64 → adj a b = true → col a = !col b) : ∀ (f : Nat) (J : Nat → Int) (Z : Nat → Bool) (v : Nat), Pre g col v J Z → uns g Z < f → Spec g col v J Z (findF g f J Z v) ∧ ((findF g f J Z v).1 = false → Shut g (findF g f J Z v).2.2 v)
  | 0, J, Z, v, _, h => by omega
  | f + 1, J, Z, v, hp, hu => by
    obtain ⟨s1, s2⟩ := tryF_spec (v := v) hcol (fun J Z u a b => findF_spec hcol f J Z u a b) (nbN v) J Z (fun i hi => mem_nbN.1 hi) hp hu
    exact ⟨s1, fun hf i hi ha hg => s2 hf i (mem_nbN.2 ⟨hi, ha⟩) hg⟩

/-! The greatest matching. -/
/-- a matching of the black cells of a set. -/
structure Mc (g col : Nat → Bool) (B : Nat → Bool) (J : Nat → Int) : Prop where
  mt : Mt g col J
  inj : ∀ i k, 0 ≤ J i → J i = J k → i = k
  bl : ∀ i, 0 ≤ J i → B (J i).toNat = true
/-- how many are joined. -/
def sz (J : Nat → Int) : Nat := ((List.range 64).filter (fun i => decide (0 ≤ J i))).length
theorem sz_le {J K : Nat → Int} (h : ∀ i, 0 ≤ J i → 0 ≤ K i) : sz J ≤ sz K := filter_le (fun i hi => by rw [decide_eq_true_eq] at hi ⊢; exact h i hi) _
theorem sz_congr {J K : Nat → Int} (h : ∀ i, 0 ≤ J i ↔ 0 ≤ K i) : sz J = sz K := Nat.le_antisymm (sz_le fun i => (h i).1) (sz_le fun i => (h i).2)
theorem filter_one {α : Type} {p q : α → Bool} {a : α} (hp : p a = false) (hq : q a = true) (h : ∀ x, x ≠ a → p x = q x) : ∀ (l : List α), l.Nodup → a ∈ l → (l.filter q).length = (l.filter p).length + 1
  | [], _, hm => by cases hm
  | x :: r, hn, hm => by
    obtain ⟨hx, hr⟩ := List.nodup_cons.1 hn
    by_cases e : x = a
    · subst e
      rw [List.filter_cons_of_pos hq, List.filter_cons_of_neg (by rw [hp]; simp)]
      have : r.filter q = r.filter p := List.filter_congr (fun y hy => (h y (fun e => hx (e ▸ hy))).symm)
      rw [this]; rfl
    · have ha : a ∈ r := by
        rcases List.mem_cons.1 hm with q' | q'
        · exact absurd q'.symm e
        · exact q'
      have := filter_one hp hq h r hr ha
      by_cases c : p x = true
      · rw [List.filter_cons_of_pos c, List.filter_cons_of_pos (by rw [← h x e]; exact c)]
        simp [this]
      · rw [List.filter_cons_of_neg c, List.filter_cons_of_neg (by rw [← h x e]; exact c)]
        exact this
theorem sz_one {J K : Nat → Int} {a : Nat} (ha : a < 64) (h1 : J a < 0) (h2 : 0 ≤ K a) (h : ∀ i, i ≠ a → (0 ≤ K i ↔ 0 ≤ J i)) : sz K = sz J + 1 :=
  filter_one (a := a) (by rw [decide_eq_false_iff_not]; omega) (by rw [decide_eq_true_eq]; exact h2) (fun x hx => by
    rw [Bool.eq_iff_iff, decide_eq_true_eq, decide_eq_true_eq]; exact (h x hx).symm) _ List.nodup_range (List.mem_range.2 ha)
/-- greatest among the matchings of the black cells of B. -/
def Max (g col B : Nat → Bool) (J : Nat → Int) : Prop := Mc g col B J ∧ ∀ K, Mc g col B K → sz K ≤ sz J
/-- one more black cell. -/
theorem max_step {g col B : Nat → Bool} (hcol : ∀ a b, a < 64 → b < 64 → adj a b = true → col a = !col b) {J : Nat → Int} (h : Max g col B J) {v : Nat} (hv : v < 64) (hg : g v = true) (hc : col v = true) (hB : B v = false) {f : Nat} (hf : 64 < f) :
    Max g col (put B v true) (findF g f J (fun _ => false) v).2.1 := by
  have hu : uns g (fun _ => false) < f := by
    have : uns g (fun _ => false) ≤ 64 := by unfold uns; exact Nat.le_trans (List.length_filter_le _ _) (by rw [List.length_range]; exact Nat.le_refl _)
    omega
  have hfree : ∀ i, J i ≠ (v : Int) := fun i e => by
    have := h.1.bl i (by omega)
    rw [e, Int.toNat_natCast, hB] at this; cases this
  have hB2 : ∀ u, B u = true → put B v true u = true := fun u hu => by
    by_cases e : u = v
    · subst e; exact put_at _ _ _
    · rw [put_ne e]; exact hu
  obtain ⟨⟨s1, s2, s3⟩, s4⟩ := findF_spec hcol f J (fun _ => false) v ⟨h.1.mt, fun i k _ _ => h.1.inj i k, fun i _ => hfree i, hv, hg, hc⟩ hu
  generalize findF g f J (fun _ => false) v = res at s1 s2 s3 s4
  obtain ⟨b, J', Z'⟩ := res
  simp only at s1 s2 s3 s4
  rcases s3 with ⟨rfl, rfl, q⟩ | ⟨rfl, q⟩
  · -- no way: what was seen is shut
    have hsv := s4 rfl
    have hz : ∀ i, Z' i = true → 0 ≤ J' i ∧ Shut g Z' (J' i).toNat := fun i hi => (q i hi).elim (fun e => by cases e) id
    refine ⟨⟨h.1.mt, h.1.inj, fun i hi => hB2 _ (h.1.bl i hi)⟩, fun K hK => ?_⟩
    have key : Mc g col B (fun i => if Z' i = true then J' i else K i) := by
      refine ⟨⟨fun i => ?_, fun i hi => ?_⟩, fun i k hi he => ?_, fun i hi => ?_⟩
      · by_cases c : Z' i = true
        · simp only [c, if_true]; exact h.1.mt.low i
        · simp only [c, if_false]; exact hK.mt.low i
      · by_cases c : Z' i = true
        · simp only [c, if_true] at hi ⊢; exact h.1.mt.ok i hi
        · simp only [c, if_false] at hi ⊢; exact hK.mt.ok i hi
      · have cross : ∀ i k, Z' i = true → ¬ Z' k = true → 0 ≤ K k → J' i = K k → False := fun i k ci ck hk he => by
          obtain ⟨_, sh⟩ := hz i ci
          obtain ⟨k64, kg, _, _, _, _, ka⟩ := hK.mt.ok k hk
          rw [← he] at ka
          exact ck (sh k k64 ka kg)
        have hi : 0 ≤ (if Z' i = true then J' i else K i) := hi
        have he : (if Z' i = true then J' i else K i) = (if Z' k = true then J' k else K k) := he
        by_cases ci : Z' i = true
        · rw [if_pos ci] at hi he
          by_cases ck : Z' k = true
          · rw [if_pos ck] at he; exact h.1.inj i k hi he
          · rw [if_neg ck] at he
            exact absurd (cross i k ci ck (by omega) he) id
        · rw [if_neg ci] at hi he
          by_cases ck : Z' k = true
          · rw [if_pos ck] at he
            exact absurd (cross k i ck ci hi he.symm) id
          · rw [if_neg ck] at he; exact hK.inj i k hi he
      · by_cases c : Z' i = true
        · simp only [c, if_true] at hi ⊢; exact h.1.bl i hi
        · simp only [c, if_false] at hi ⊢
          have hb := hK.bl i hi
          by_cases e : (K i).toNat = v
          · exfalso
            obtain ⟨k64, kg, _, _, _, _, ka⟩ := hK.mt.ok i hi
            rw [e] at ka
            exact c (hsv i k64 ka kg)
          · rw [put_ne e] at hb; exact hb
    refine Nat.le_trans (sz_le (K := fun i => if Z' i = true then J' i else K i) fun i hi => ?_) (h.2 _ key)
    by_cases c : Z' i = true
    · simp only [c, if_true]; exact (hz i c).1
    · simp only [c, if_false]; exact hi
  · -- a way: one more
    obtain ⟨a, _, a2, a3, a4⟩ := q.one
    have ha64 := (s2.ok a a3).1
    have hs : sz J' = sz J + 1 := sz_one ha64 a2 a3 a4
    refine ⟨⟨s2, fun i k hi he => q.inj i k rfl rfl hi he, fun i hi => ?_⟩, fun K hK => ?_⟩
    · have hi : 0 ≤ J' i := hi
      show put B v true (J' i).toNat = true
      rcases q.img i rfl hi with e | ⟨m, _, e⟩
      · rw [e, Int.toNat_natCast]; exact put_at _ _ _
      · rw [← e]; exact hB2 _ (h.1.bl m (by omega))
    · rw [hs]
      by_cases hx : ∃ x, K x = (v : Int)
      · obtain ⟨x, hx⟩ := hx
        have hx64 := (hK.mt.ok x (by omega)).1
        have key : Mc g col B (put K x (-1)) := by
          have ne : ∀ i, 0 ≤ put K x (-1) i → i ≠ x := fun i hi e => by subst e; rw [put_at] at hi; omega
          refine ⟨⟨fun i => ?_, fun i hi => ?_⟩, fun i k hi he => ?_, fun i hi => ?_⟩
          · by_cases e : i = x
            · subst e; rw [put_at]; omega
            · rw [put_ne e]; exact hK.mt.low i
          · have e := ne i hi
            rw [put_ne e] at hi ⊢; exact hK.mt.ok i hi
          · have e := ne i hi
            have e2 := ne k (by omega)
            rw [put_ne e] at hi he
            rw [put_ne e2] at he
            exact hK.inj i k hi he
          · have e := ne i hi
            rw [put_ne e] at hi ⊢
            have hb := hK.bl i hi
            by_cases e2 : (K i).toNat = v
            · exfalso; apply e; exact hK.inj i x hi (by omega)
            · rw [put_ne e2] at hb; exact hb
        have h1 := h.2 _ key
        have h2 : sz K = sz (put K x (-1)) + 1 := sz_one hx64 (by rw [put_at]; omega) (by omega) (fun i hi => by rw [put_ne hi])
        omega
      · have key : Mc g col B K := ⟨hK.mt, hK.inj, fun i hi => by
          have hb := hK.bl i hi
          by_cases e2 : (K i).toNat = v
          · exact absurd ⟨i, by omega⟩ hx
          · rw [put_ne e2] at hb; exact hb⟩
        have := h.2 _ key
        omega
/-- from each black cell of a list in turn. -/
def allF (g : Nat → Bool) (f : Nat) : List Nat → (Nat → Int) → (Nat → Int)
  | [], J => J
  | v :: r, J => allF g f r (findF g f J (fun _ => false) v).2.1
theorem allF_snoc {g : Nat → Bool} {f : Nat} (v : Nat) : ∀ (l : List Nat) (J : Nat → Int), allF g f (l ++ [v]) J = (findF g f (allF g f l J) (fun _ => false) v).2.1
  | [], J => rfl
  | u :: r, J => allF_snoc v r _
theorem max_start (g col : Nat → Bool) : Max g col (fun _ => false) (fun _ => -1) :=
  ⟨⟨⟨fun i => Int.le_refl _, fun i hi => by simp at hi⟩, fun i k hi => by simp at hi, fun i hi => by simp at hi⟩, fun K hK => by
    have : sz K = 0 := by
      unfold sz
      rw [List.length_eq_zero_iff, List.filter_eq_nil_iff]
      intro i _ hi
      rw [decide_eq_true_eq] at hi
      have := hK.bl i hi
      cases this
    omega⟩
theorem max_all {g col : Nat → Bool} (hcol : ∀ a b, a < 64 → b < 64 → adj a b = true → col a = !col b) {f : Nat} (hf : 64 < f) : ∀ (l : List Nat) (B : Nat → Bool) (J : Nat → Int), Max g col B J → l.Nodup → (∀ v ∈ l, v < 64 ∧ g v = true ∧ col v = true ∧ B v = false) →
    Max g col (fun u => B u || decide (u ∈ l)) (allF g f l J)
  | [], B, J, h, _, _ => by
    have e : (fun u => B u || decide (u ∈ ([] : List Nat))) = B := by funext u; simp
    rw [e]; exact h
  | v :: r, B, J, h, hn, hl => by
    obtain ⟨hx, hr⟩ := List.nodup_cons.1 hn
    obtain ⟨a, b, c, d⟩ := hl v (by simp)
    have := max_all hcol hf r (put B v true) _ (max_step hcol h a b c d hf) hr (fun u hu => by
      obtain ⟨a, b, c, d⟩ := hl u (by simp [hu])
      exact ⟨a, b, c, by rw [put_ne (fun e => hx (by rw [← e]; exact hu))]; exact d⟩)
    have e : (fun u => B u || decide (u ∈ v :: r)) = (fun u => put B v true u || decide (u ∈ r)) := by
      funext u
      by_cases e : u = v
      · subst e; rw [put_at]; simp
      · rw [put_ne e]; simp [e]
    rw [e]; exact this
end Go.Proofs.Ytieophdbhnpncaa.Kun
