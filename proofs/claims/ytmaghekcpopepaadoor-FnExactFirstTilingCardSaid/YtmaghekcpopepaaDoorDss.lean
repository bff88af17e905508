/- Slices of slices of dominoes: what lies there, two that are compared, numbers that are written into one and read again. -/
import Derived.Test.YtmaghekcpopepaaDoorMgTil
namespace Go.Proofs.YtmaghekcpopepaaDoor.Dss
set_option linter.unusedVariables false
set_option linter.unusedSimpArgs false
open Go.RowKit Go.Proofs.YtmaghekcpopepaaDoor.Base Go.Proofs.YtmaghekcpopepaaDoor.Pure Go.Proofs.YtmaghekcpopepaaDoor.Cell Go.Proofs.YtmaghekcpopepaaDoor.Dom Go.Proofs.YtmaghekcpopepaaDoor.Dms Go.Proofs.YtmaghekcpopepaaDoor.Til Go.Joins
open Go.Proofs.YtmaghekcpopepaaDoor.Reg hiding Yes add_none

def blk (a : Option Addr) : Option Nat := a.map (·.block)
theorem ownBlock_slice (a : Option Addr) (n c : Nat) : (Value.slice a n c).ownBlock = blk a := by cases a <;> rfl
/-- no block of both. -/
def Dif (a b : Option Addr) : Prop := ∀ g, blk a = some g → blk b ≠ some g
theorem Dif.symm {a b : Option Addr} (h : Dif a b) : Dif b a := fun g h1 h2 => h g h2 h1
theorem dif_types {W : World} {lo lo' e e' size size' n n' : Nat} {A A' : Option Addr} {c c' m m' : Nat} {xs xs' : List Value} (h : W.ownsRow lo e size (.slice A m c) n xs) (h' : W.ownsRow lo' e' size' (.slice A' m' c') n' xs') (hne : e ≠ e') : Dif A A' := by
  intro g h1 h2
  rcases h.2 with ⟨hv, _⟩ | ⟨g1, cap1, cur1, hv, _, hg1, _⟩
  · injection hv with hA; subst hA; cases h1
  · injection hv with hA; subst hA
    rcases h'.2 with ⟨hv', _⟩ | ⟨g2, cap2, cur2, hv', _, hg2, _⟩
    · injection hv' with hA'; subst hA'; cases h2
    · injection hv' with hA'; subst hA'
      simp [blk] at h1 h2
      subst h1; subst h2
      rw [hg1] at hg2
      injection hg2 with hg2
      injection hg2 with _ hg2
      exact hne hg2
/-- the slices, as they lie in a row. -/
def outs (h : Nat) (S : List (Option Addr × Nat)) : List Value := S.map fun s : Option Addr × Nat => Value.slice s.1 h s.2
theorem outs_length (h : Nat) (S : List (Option Addr × Nat)) : (outs h S).length = S.length := by unfold outs; simp
theorem outs_at {h : Nat} {S : List (Option Addr × Nat)} {i : Nat} {s : Option Addr × Nat} (hs : S[i]? = some s) : (outs h S)[i]? = some (.slice s.1 h s.2) := by unfold outs; rw [List.getElem?_map, hs]; rfl
/-- rows of dominoes, each in a block of its own. -/
def Ins (W : World) (lo hi h : Nat) (L : List (List Dm)) (S : List (Option Addr × Nat)) : Prop :=
  S.length = L.length ∧ (∀ (i : Nat) (s : Option Addr × Nat) (x : List Dm), S[i]? = some s → L[i]? = some x → RowIn W lo hi 37 3 (.slice s.1 h s.2) h (rowM x)) ∧ S.Pairwise (fun s t : Option Addr × Nat => Dif s.1 t.1)
/-- a slice of slices of dominoes in memory of one's own. -/
def SSl (W : World) (lo hi : Nat) (A : Option Addr) (m cap h : Nat) (L : List (List Dm)) (S : List (Option Addr × Nat)) : Prop :=
  RowIn W lo hi 30 1 (.slice A m cap) m (outs h S) ∧ Ins W lo hi h L S
def SSIn (W : World) (lo hi : Nat) (A : Option Addr) (m cap h : Nat) (L : List (List Dm)) : Prop := ∃ S, SSl W lo hi A m cap h L S
theorem SSl.length {W : World} {lo hi m cap h : Nat} {A : Option Addr} {L : List (List Dm)} {S : List (Option Addr × Nat)} (k : SSl W lo hi A m cap h L S) : L.length = m ∧ S.length = m := by
  have h1 := k.1.1.1
  rw [outs_length] at h1
  have h2 := k.2.1
  omega
theorem Ins.nil (W : World) (lo hi h : Nat) : Ins W lo hi h [] [] := ⟨rfl, fun i s x hs => by simp at hs, List.Pairwise.nil⟩
theorem RowIn.wide {W : World} {lo hi lo' hi' e size n : Nat} {v : Value} {xs : List Value} (h : RowIn W lo hi e size v n xs) (h1 : lo' ≤ lo) (h2 : hi ≤ hi') : RowIn W lo' hi' e size v n xs :=
  ⟨own_base h.1 h1, fun g hg => by have := h.2 g hg; omega⟩
theorem Ins.wide {W : World} {lo hi lo' hi' h : Nat} {L : List (List Dm)} {S : List (Option Addr × Nat)} (k : Ins W lo hi h L S) (h1 : lo' ≤ lo) (h2 : hi ≤ hi') : Ins W lo' hi' h L S :=
  ⟨k.1, fun i s x hs hx => RowIn.wide (k.2.1 i s x hs hx) h1 h2, k.2.2⟩
theorem Ins.on {W W' : World} {lo hi h : Nat} {L : List (List Dm)} {S : List (Option Addr × Nat)} (k : Ins W lo hi h L S) (hb : Below W.heap.size W W') : Ins W' lo hi h L S :=
  ⟨k.1, fun i s x hs hx => (k.2.1 i s x hs hx).on hb, k.2.2⟩
theorem SSIn.on {W W' : World} {lo hi m cap h : Nat} {A : Option Addr} {L : List (List Dm)} (k : SSIn W lo hi A m cap h L) (hb : Below W.heap.size W W') : SSIn W' lo hi A m cap h L := by
  obtain ⟨S, k1, k2⟩ := k
  exact ⟨S, k1.on hb, k2.on hb⟩
theorem Ins.apart {W W' : World} {lo hi lo' hi' h : Nat} {L : List (List Dm)} {S : List (Option Addr × Nat)} (k : Ins W lo hi h L S) (hb : Apart lo' hi' W W') (hd : hi ≤ lo' ∨ hi' ≤ lo) : Ins W' lo hi h L S :=
  ⟨k.1, fun i s x hs hx => (k.2.1 i s x hs hx).apart hb hd, k.2.2⟩
theorem SSIn.apart {W W' : World} {lo hi lo' hi' m cap h : Nat} {A : Option Addr} {L : List (List Dm)} (k : SSIn W lo hi A m cap h L) (hb : Apart lo' hi' W W') (hd : hi ≤ lo' ∨ hi' ≤ lo) : SSIn W' lo hi A m cap h L := by
  obtain ⟨S, k1, k2⟩ := k
  exact ⟨S, k1.apart hb hd, k2.apart hb hd⟩
theorem SSIn.wide {W : World} {lo hi lo' hi' m cap h : Nat} {A : Option Addr} {L : List (List Dm)} (k : SSIn W lo hi A m cap h L) (h1 : lo' ≤ lo) (h2 : hi ≤ hi') : SSIn W lo' hi' A m cap h L := by
  obtain ⟨S, k1, k2⟩ := k
  exact ⟨S, RowIn.wide k1 h1 h2, k2.wide h1 h2⟩
theorem rows_dif {W : World} {lo hi lo' hi' e e' size size' n n' m m' c c' : Nat} {A A' : Option Addr} {xs xs' : List Value} (h : RowIn W lo hi e size (.slice A m c) n xs) (h' : RowIn W lo' hi' e' size' (.slice A' m' c') n' xs') (hd : hi ≤ lo') : Dif A A' := by
  intro g h1 h2
  have a := h.2 g (by rw [ownBlock_slice]; exact h1)
  have b := (h'.1.lt g (by rw [ownBlock_slice]; exact h2)).1
  omega
/-- rows behind rows. -/
theorem Ins.app {W : World} {lo hi lo' hi' h : Nat} {L L' : List (List Dm)} {S S' : List (Option Addr × Nat)} (k : Ins W lo hi h L S) (k' : Ins W lo' hi' h L' S') (h1 : lo ≤ hi) (hd : hi ≤ lo') (h2 : lo' ≤ hi') : Ins W lo hi' h (L ++ L') (S ++ S') := by
  refine ⟨by rw [List.length_append, List.length_append, k.1, k'.1], fun i s x hs hx => ?_, ?_⟩
  · by_cases hi' : i < S.length
    · rw [List.getElem?_append_left hi'] at hs
      rw [List.getElem?_append_left (by rw [← k.1]; exact hi')] at hx
      exact RowIn.wide (k.2.1 i s x hs hx) (Nat.le_refl _) (by omega)
    · rw [List.getElem?_append_right (by omega)] at hs
      rw [List.getElem?_append_right (by rw [← k.1]; omega), ← k.1] at hx
      exact RowIn.wide (k'.2.1 _ s x hs hx) (by omega) (Nat.le_refl _)
  · rw [List.pairwise_append]
    refine ⟨k.2.2, k'.2.2, fun s hs t ht => ?_⟩
    obtain ⟨i, hi1, e1⟩ := List.getElem_of_mem hs
    obtain ⟨j, hj1, e2⟩ := List.getElem_of_mem ht
    have r1 := k.2.1 i s _ (by rw [List.getElem?_eq_getElem hi1, e1]) (List.getElem?_eq_getElem (by rw [← k.1]; exact hi1))
    have r2 := k'.2.1 j t _ (by rw [List.getElem?_eq_getElem hj1, e2]) (List.getElem?_eq_getElem (by rw [← k'.1]; exact hj1))
    exact rows_dif r1 r2 hd
theorem Ins.one {W : World} {lo hi h c : Nat} {A : Option Addr} {x : List Dm} (k : RowIn W lo hi 37 3 (.slice A h c) h (rowM x)) : Ins W lo hi h [x] [(A, c)] := by
  refine ⟨rfl, fun i s y hs hy => ?_, by simp⟩
  cases i with
  | zero => simp at hs hy; subst hs; subst hy; exact k
  | succ i => simp at hs

/-! What can be read. -/
def RowSS (w : World) (B : Nat) (A : Option Addr) (m h : Nat) (L : List (List Dm)) : Prop :=
  ∃ (b : Nat) (S : List (Option Addr × Nat)), S.length = L.length ∧ (0 < m → A = some ⟨b, 0, none⟩ ∧ b < B) ∧ ∀ (i : Nat) (s : Option Addr × Nat) (x : List Dm), S[i]? = some s → L[i]? = some x → w.cell? ⟨b, i, none⟩ = some (.slice s.1 h s.2) ∧ RowM w B s.1 x
theorem ss_row {W : World} {lo hi m cap h : Nat} {A : Option Addr} {L : List (List Dm)} (k : SSIn W lo hi A m cap h L) : RowSS W W.heap.size A m h L := by
  obtain ⟨S, k⟩ := k
  have hl := k.length
  by_cases h0 : 0 < m
  · obtain ⟨g, c, hv, _, hlt⟩ := k.1.1.form (by omega)
    injection hv with hA
    subst hA
    refine ⟨g, S, k.2.1, fun _ => ⟨rfl, hlt⟩, fun i s x hs hx => ⟨?_, rowM_own (k.2.2.1 i s x hs hx).1⟩⟩
    have := k.1.1.cells (g := g) rfl i _ (outs_at hs)
    rwa [Base.add_plain] at this
  · refine ⟨0, S, k.2.1, fun q => by omega, fun i s x hs hx => ?_⟩
    have := (List.getElem?_eq_some_iff.1 hs).1
    omega
theorem RowSS.below {w w' : World} {B B' : Nat} {A : Option Addr} {m h : Nat} {L : List (List Dm)} (k : RowSS w B A m h L) (hm : L.length = m) (hb : Below B' w w') (hB : B ≤ B') : RowSS w' B A m h L := by
  obtain ⟨b, S, h1, h2, h3⟩ := k
  refine ⟨b, S, h1, h2, fun i s x hs hx => ?_⟩
  obtain ⟨a, c⟩ := h3 i s x hs hx
  have h0 : 0 < m := by have := (List.getElem?_eq_some_iff.1 hx).1; omega
  exact ⟨(hb.cell (p := ⟨b, i, none⟩) (by show b < _; have := (h2 h0).2; omega)).trans a, c.below hb hB⟩

set_option maxRecDepth 100000 in
set_option maxHeartbeats 1000000 in
theorem eqDomss (w : World) (A A' : Option Addr) (m h cap cap' B B' : Nat) (L : List (List Dm)) (hx : L.length = m) (hh : ∀ x ∈ L, x.length = h) (hl : (m : Int) ≤ 9223372036854775807) (hl2 : (h : Int) ≤ 9223372036854775807) (h1 : RowSS w B A m h L) (h2 : RowSS w B' A' m h L) (hB : B ≤ w.heap.size) (hB' : B' ≤ w.heap.size) :
    Calls Tryd.prog 19 #[.slice A m cap, .slice A' m cap'] w (Bol true w) := by
  obtain ⟨b, S, s1, s2, s3⟩ := h1
  obtain ⟨b', S', t1, t2, t3⟩ := h2
  have HE := Lib.hid (fun W a a' c c' x (hm : x ∈ L) (r1 : RowM W B a x) (r2 : RowM W B' a' x) (q1 : B ≤ W.heap.size) (q2 : B' ≤ W.heap.size) => eqDoms W a a' h c c' B B' x (hh x hm) hl2 r1 r2 q1 q2)
  have H1 := Lib.hid s2
  have H2 := Lib.hid t2
  have H3 := Lib.hid s3
  have H4 := Lib.hid t3
  have HX := Lib.hid hx
  have HS := Lib.hid s1
  have HT := Lib.hid t1
  clear s1 s2 s3 t1 t2 t3 hx hh
  have hnn : (((m : Nat) : Int) != ((m : Nat) : Int)) = false := by simp
  go_enter Tryd.func19, Tryd.ntmps19
  go_wp2_with fail
  go_loopw [5] (fun i wr => ∃ k : Nat, k ≤ m ∧ i = .int .i64 k ∧ Below w.heap.size w wr) (fun i _ => m - (intOf i).toNat)
  case atStart => exact ⟨0, Nat.zero_le _, rfl, Below.refl _ _⟩
  case round =>
    obtain ⟨k, hk, rfl, hb⟩ := hrel
    have hbs := hb.size
    by_cases hlt : k < m
    · have hkx : k < L.length := by have := HX.out; omega
      obtain ⟨rfl, hbw⟩ := H1.out (by omega)
      obtain ⟨rfl, hbw'⟩ := H2.out (by omega)
      have hs1 : k < S.length := by rw [HS.out]; exact hkx
      have hs2 : k < S'.length := by rw [HT.out]; exact hkx
      obtain ⟨c1, c2⟩ := H3.out k S[k] L[k] (List.getElem?_eq_getElem _) (List.getElem?_eq_getElem hkx)
      obtain ⟨d1, d2⟩ := H4.out k S'[k] L[k] (List.getElem?_eq_getElem _) (List.getElem?_eq_getElem hkx)
      have c1' := (hb.cell (p := ⟨b, k, none⟩) (by show b < _; omega)).trans c1
      have d1' := (hb.cell (p := ⟨b', k, none⟩) (by show b' < _; omega)).trans d1
      have c2' := c2.below hb hB
      have d2' := d2.below hb hB'
      clear c1 d1 c2 d2
      have hmem : L[k] ∈ L := List.getElem_mem hkx
      generalize S[k] = s at c1' c2'
      generalize S'[k] = t at d1' d2'
      generalize L[k] = x at c2' d2' hmem
      obtain ⟨sa, sc⟩ := s
      obtain ⟨ta, tc⟩ := t
      simp only at c1' c2' d1' d2'
      have hB1 : b < wr.heap.size := by omega
      have hB2 : b' < wr.heap.size := by omega
      have HC := Lib.hid (HE.out wr.drew sa ta sc tc x hmem c2'.drew d2'.drew (by show B ≤ wr.heap.size; omega) (by show B' ≤ wr.heap.size; omega))
      clear c2' d2'
      go_wp2_with fail
      go_region_held3 (fun w' => w'.cell? ⟨b, k, none⟩ = some (.slice sa h sc) ∧ w'.cell? ⟨b', k, none⟩ = some (.slice ta h tc))
        (first | go_keep | exact ⟨(hbx.cell (by simpa using hB1)).trans c1', (hbx.cell (by simpa using hB2)).trans d1'⟩)
        (first | (go_at_call 25; refine HC.out.mono ?_; rintro e wx ⟨rfl, hbx⟩))
      have hb2 : Below w.heap.size w wx := hb.drew.trans (hbx.mono hbs)
      clear c1' d1' hbx
      go_wp2
      go_roundw
      case rel => exact ⟨k + 1, by omega, by go_num, hb2⟩
      case measure => (simp [intOf] <;> omega)
    · obtain rfl : k = m := by omega
      go_wp2
      go_ret
      exact ⟨rfl, hb⟩

/-- numbers into one of the rows: no other block is touched. -/
theorem markOne (w : World) (lo hi k h c : Nat) (A : Option Addr) (x : List Dm) (hn : ((k + 3 * h : Nat) : Int) ≤ 10000000) (hr : RowIn w lo hi 37 3 (.slice A h c) h (rowM x)) :
    Calls Tryd.prog 26 #[.slice A h c, .int .i64 (k : Int)] w fun e w' => e = .returned (.int .i64 ((k + 3 * h : Nat) : Int)) ∧ RowIn w' lo hi 37 3 (.slice A h c) h (rowM (marksM k h)) ∧ w.grownBy w' (blk A) := by
  have hg : ∃ g g', RowIn w g g' 37 3 (.slice A h c) h (rowM x) ∧ (∀ j, some j ≠ blk A → j < g ∨ g' ≤ j) := by
    rcases hr.1.2 with ⟨hv, h0⟩ | ⟨g, cap, cur, hv, h1, h2⟩
    · injection hv with hA hn hc
      subst hA
      exact ⟨0, 0, ⟨⟨hr.1.1, .inl ⟨by rw [hn, hc], h0⟩⟩, fun g hg => by cases hg⟩, fun j _ => .inr (Nat.zero_le _)⟩
    · injection hv with hA hn hc
      subst hA
      refine ⟨g, g + 1, ⟨⟨hr.1.1, .inr ⟨g, cap, cur, by rw [← hc], Nat.le_refl _, h2⟩⟩, fun q hq => ?_⟩, fun j hj => ?_⟩
      · simp [Value.ownBlock] at hq; omega
      · simp [blk] at hj; omega
  obtain ⟨g, g', hg, hz⟩ := hg
  refine (markDoms w g g' k h c A x hn hg).mono ?_
  rintro e w' ⟨he, h1, h2⟩
  refine ⟨he, ⟨⟨h1.1.1, ?_⟩, fun q hq' => hr.2 q hq'⟩, h2.os, h2.tape, h2.output, h2.size, fun j hj hne => h2.block j hj (hz j hne)⟩
  rcases h1.1.2 with a | ⟨g', cap, cur, hv, a1, a2⟩
  · exact .inl a
  · refine .inr ⟨g', cap, cur, hv, ?_, a2⟩
    exact (hr.1.lt g' (by rw [hv]; rfl)).1
/-- rows of numbers. -/
def marksL (k h m : Nat) : List (List Dm) := (List.range m).map fun i => marksM (k + 3 * h * i) h
theorem marksL_length (k h m : Nat) : (marksL k h m).length = m := by unfold marksL; simp
theorem marksL_at {k h m i : Nat} (hi : i < m) : (marksL k h m)[i]? = some (marksM (k + 3 * h * i) h) := by unfold marksL; rw [List.getElem?_map, List.getElem?_range hi]; rfl
theorem marksL_all {k h m : Nat} : ∀ x ∈ marksL k h m, x.length = h := by
  intro x hx
  obtain ⟨i, _, rfl⟩ := List.mem_map.1 hx
  exact marksM_length _ _
/-- the rows while numbers are written. -/
def midL (k h j : Nat) (L : List (List Dm)) : List (List Dm) := marksL k h j ++ L.drop j
theorem midL_at {k h j i : Nat} {L : List (List Dm)} {x : List Dm} (hj : j ≤ L.length) (hx : (midL k h j L)[i]? = some x) : (i < j ∧ x = marksM (k + 3 * h * i) h) ∨ (j ≤ i ∧ L[i]? = some x) := by
  unfold midL at hx
  by_cases h : i < j
  · rw [List.getElem?_append_left (by rw [marksL_length]; exact h), marksL_at h] at hx
    exact .inl ⟨h, (Option.some.inj hx).symm⟩
  · rw [List.getElem?_append_right (by rw [marksL_length]; omega), marksL_length, List.getElem?_drop, show j + (i - j) = i by omega] at hx
    exact .inr ⟨by omega, hx⟩
theorem midL_one {k h j : Nat} {L : List (List Dm)} {x : List Dm} (hj : L[j]? = some x) : (midL k h j L)[j]? = some x := by
  unfold midL
  rw [List.getElem?_append_right (by rw [marksL_length]; omega), marksL_length, List.getElem?_drop, show j + (j - j) = j by omega]
  exact hj
/-- one row more has its numbers. -/
theorem ss_mark {w w' : World} {lo hi m cap h k j : Nat} {A : Option Addr} {L : List (List Dm)} {S : List (Option Addr × Nat)} (hj : j < L.length) (hsj : j < S.length) (q : SSl w lo hi A m cap h (midL k h j L) S)
    (hr : RowIn w' lo hi 37 3 (.slice S[j].1 h S[j].2) h (rowM (marksM (k + 3 * h * j) h))) (hg : w.grownBy w' (blk S[j].1)) :
    SSl w' lo hi A m cap h (midL k h (j + 1) L) S := by
  have hlen : (midL k h (j + 1) L).length = (midL k h j L).length := by
    unfold midL
    rw [List.length_append, List.length_append, marksL_length, marksL_length, List.length_drop, List.length_drop]
    omega
  have hj1 : L[j]? = some L[j] := List.getElem?_eq_getElem hj
  have r0 := q.2.2.1 j S[j] L[j] (List.getElem?_eq_getElem hsj) (midL_one hj1)
  refine ⟨⟨q.1.1.kept hg ?_, q.1.2⟩, by rw [hlen]; exact q.2.1, fun i s x hs hx => ?_, q.2.2.2⟩
  · rw [ownBlock_slice]
    have hd := dif_types q.1.1 r0.1 (by decide)
    cases hA : blk A with
    | none => exact .inl rfl
    | some g => exact .inr (fun e => hd g hA e.symm)
  · by_cases e : i = j
    · subst e
      rw [List.getElem?_eq_getElem hsj] at hs
      obtain rfl := Option.some.inj hs
      rcases midL_at (by omega) hx with ⟨_, rfl⟩ | ⟨a, _⟩
      · exact hr
      · omega
    · have hx' : (midL k h j L)[i]? = some x := by
        rcases midL_at (by omega) hx with ⟨a, rfl⟩ | ⟨a, b⟩
        · unfold midL
          rw [List.getElem?_append_left (by rw [marksL_length]; omega), marksL_at (by omega)]
        · unfold midL
          rw [List.getElem?_append_right (by rw [marksL_length]; omega), marksL_length, List.getElem?_drop, show j + (i - j) = i by omega]
          exact b
      have r := q.2.2.1 i s x hs hx'
      refine ⟨r.1.kept hg ?_, r.2⟩
      rw [ownBlock_slice]
      have hp := List.pairwise_iff_getElem.1 q.2.2.2
      have his := (List.getElem?_eq_some_iff.1 hs).1
      have hsi : S[i] = s := (List.getElem?_eq_some_iff.1 hs).2
      have hd : Dif s.1 S[j].1 := by
        rw [← hsi]
        by_cases c : i < j
        · exact hp i j his hsj c
        · exact (hp j i hsj his (by omega)).symm
      cases hA : blk s.1 with
      | none => exact .inl rfl
      | some g => exact .inr (fun e => hd g hA e.symm)
theorem grown_apart {w w' : World} {lo hi : Nat} {r : Option Nat} (h : w.grownBy w' r) (hr : ∀ g, r = some g → lo ≤ g ∧ g < hi) : Apart lo hi w w' :=
  ⟨h.os, h.tape, h.output, h.size, fun k hk q => h.block k hk (fun e => by have := hr k e.symm; omega)⟩
theorem own_max {W : World} {lo e size n : Nat} {v : Value} {xs : List Value} (h : W.ownsRow lo e size v n xs) : (n : Int) ≤ 9223372036854775807 := by
  rcases h.2 with ⟨_, h0⟩ | ⟨g, cap, cur, _, _, _, h1, h2, _⟩
  · omega
  · unfold maxLen at h2; omega
set_option maxRecDepth 100000 in
set_option maxHeartbeats 1000000 in
theorem markDomss (w : World) (lo hi k m cap h : Nat) (A : Option Addr) (L : List (List Dm)) (k0 k1 : Int) (hk : k0 = (k : Int)) (hk1 : k1 = ((k + 3 * h * m : Nat) : Int)) (hn : k1 ≤ 1000000) (hr : SSIn w lo hi A m cap h L) :
    Calls Tryd.prog 22 #[.slice A m cap, .int .i64 k0] w fun e w' => e = .returned (.int .i64 k1) ∧ SSIn w' lo hi A m cap h (marksL k h m) ∧ Apart lo hi w w' := by
  subst hk hk1
  obtain ⟨S, hr⟩ := hr
  obtain ⟨l1, l2⟩ := hr.length
  have H1 := Lib.hid l1
  have H2 := Lib.hid l2
  have HR := Lib.hid hr
  have HM := Lib.hid (fun W lo hi k h c A x (hn : ((k + 3 * h : Nat) : Int) ≤ 10000000) hr => markOne W lo hi k h c A x hn hr)
  have HN := Lib.hid hn
  have hm0 := own_max hr.1.1
  clear l1 l2 hr hn
  go_enter Tryd.func22, Tryd.ntmps22
  go_wp2_with fail
  go_loopw [1, 5] (fun z i wr => ∃ j : Nat, j ≤ m ∧ i = .int .i64 j ∧ z = .int .i64 ((k + 3 * h * j : Nat) : Int) ∧ SSl wr lo hi A m cap h (midL k h j L) S ∧ Apart lo hi w wr) (fun _ i _ => m - (intOf i).toNat)
  case atStart => exact ⟨0, Nat.zero_le _, rfl, rfl, HR.out, Apart.refl _ _ _⟩
  case round =>
    obtain ⟨j, hj, rfl, rfl, hq, hb⟩ := hrel
    by_cases hlt : j < m
    · have hjL : j < L.length := by rw [H1.out]; exact hlt
      have hjS : j < S.length := by rw [H2.out]; exact hlt
      have hin := hq.2.2.1 j S[j] L[j] (List.getElem?_eq_getElem hjS) (midL_one (List.getElem?_eq_getElem hjL))
      obtain ⟨g, c, hv, hg1, hg2⟩ := hq.1.1.form (by omega)
      injection hv with hA hn1 hc1
      subst hA
      subst hc1
      have hcell : wr.cell? ⟨g, j, none⟩ = some (.slice S[j].1 h S[j].2) := by
        have := hq.1.1.cells (g := g) rfl j _ (outs_at (List.getElem?_eq_getElem hjS))
        rwa [Base.add_plain] at this
      have hstep : k + 3 * h * (j + 1) = k + 3 * h * j + 3 * h := by rw [Nat.mul_succ]; omega
      have hbnd : ((k + 3 * h * j + 3 * h : Nat) : Int) ≤ 10000000 := by
        have h1 : 3 * h * (j + 1) ≤ 3 * h * m := Nat.mul_le_mul_left _ (by omega)
        have := HN.out
        omega
      have HQ := Lib.hid hq
      have HI := Lib.hid hin
      have HK := Lib.hid hstep
      have HMk := Lib.hid (fun w' (hr : RowIn w' lo hi 37 3 (.slice S[j].1 h S[j].2) h (rowM (marksM (k + 3 * h * j) h))) (hg : wr.grownBy w' (blk S[j].1)) => ss_mark (w := wr) hjL hjS hq hr hg)
      clear hq hin hstep
      generalize S[j] = s at hcell HI HMk
      obtain ⟨sa, sc⟩ := s
      simp only at hcell HI HMk
      have hgz : g < wr.heap.size := hg2
      have hz := hb.size
      have HR1 := Lib.hid (fun q (hq : blk sa = some q) => HI.out.1.lt q (by rw [ownBlock_slice]; exact hq))
      have HR2 := Lib.hid (fun q (hq : blk sa = some q) => HI.out.2 q (by rw [ownBlock_slice]; exact hq))
      have HC := Lib.hid (HM.out wr lo hi (k + 3 * h * j) h sc sa L[j] hbnd HI.out)
      have HB := Lib.hid (fun w' (hg : wr.grownBy w' (blk sa)) => hb.trans (grown_apart (lo := lo) (hi := hi) hg (fun q hq => ⟨(HR1.out q hq).1, HR2.out q hq⟩)))
      rw [← HK.out] at HC
      have hm2 : ((k + 3 * h * (j + 1) : Nat) : Int) ≤ 10000000 := by rw [HK.out]; exact hbnd
      clear HI HM HR1 HR2 hbnd hb
      generalize hz1 : ((k + 3 * h * (j + 1) : Nat) : Int) = z1 at HC hm2 ⊢
      generalize ((k + 3 * h * j : Nat) : Int) = z0 at HC ⊢
      have HZ1 := Lib.hid hz1
      clear hz1
      go_wp2_with fail
      refine HC.out.mono ?_
      rintro e wx ⟨rfl, hrx, hgx⟩
      have HQ2 := Lib.hid (HMk.out _ hrx hgx)
      have HB2 := Lib.hid (HB.out _ hgx)
      clear hrx hgx HC HMk HB HQ
      go_wp2
      go_roundw
      case rel => exact ⟨j + 1, by omega, by go_num, by rw [HZ1.out], HQ2.out, HB2.out⟩
      case measure => (simp [intOf] <;> omega)
    · obtain rfl : j = m := by omega
      have R := Lib.hid (show SSIn wr lo hi A j cap h (marksL k h j) from by
        have e : midL k h j L = marksL k h j := by unfold midL; rw [List.drop_eq_nil_of_le (by rw [H1.out]; omega), List.append_nil]
        rw [e] at hq; exact ⟨S, hq⟩)
      clear hq
      go_wp2
      go_ret
      exact ⟨rfl, R.out, hb⟩
set_option maxRecDepth 100000 in
set_option maxHeartbeats 1000000 in
theorem heldDomss (w : World) (k m cap h B : Nat) (A : Option Addr) (k0 k1 : Int) (hk : k0 = (k : Int)) (hk1 : k1 = ((k + 3 * h * m : Nat) : Int)) (hn : k1 ≤ 1000000) (hm0 : (m : Int) ≤ 9223372036854775807) (hr : RowSS w B A m h (marksL k h m)) :
    Calls Tryd.prog 23 #[.slice A m cap, .int .i64 k0] w fun e w' => e = .returned (.int .i64 k1) ∧ w' = w := by
  subst hk hk1
  obtain ⟨b, S, s1, s2, s3⟩ := hr
  have H1 := Lib.hid s2
  have H3 := Lib.hid s3
  have HS := Lib.hid s1
  have HM := Lib.hid (fun c a j (hn : ((k + 3 * h * j + 3 * h : Nat) : Int) ≤ 10000000) (hr : RowM w B a (marksM (k + 3 * h * j) h)) => heldDoms w (k + 3 * h * j) h c B a hn hr)
  have HN := Lib.hid hn
  clear s1 s2 s3 hn
  go_enter Tryd.func23, Tryd.ntmps23
  go_wp2_with fail
  go_loopw [1, 5] (fun z i wr => ∃ j : Nat, j ≤ m ∧ i = .int .i64 j ∧ z = .int .i64 ((k + 3 * h * j : Nat) : Int) ∧ wr = w) (fun _ i _ => m - (intOf i).toNat)
  case atStart => exact ⟨0, Nat.zero_le _, rfl, rfl, rfl⟩
  case round =>
    obtain ⟨j, hj, rfl, rfl, rfl⟩ := hrel
    by_cases hlt : j < m
    · have hjS : j < S.length := by rw [HS.out, marksL_length]; exact hlt
      obtain ⟨rfl, hbw⟩ := H1.out (by omega)
      obtain ⟨hcell, hrow⟩ := H3.out j S[j] _ (List.getElem?_eq_getElem hjS) (marksL_at hlt)
      have hstep : k + 3 * h * (j + 1) = k + 3 * h * j + 3 * h := by rw [Nat.mul_succ]; omega
      have hbnd : ((k + 3 * h * j + 3 * h : Nat) : Int) ≤ 10000000 := by
        have h1 : 3 * h * (j + 1) ≤ 3 * h * m := Nat.mul_le_mul_left _ (by omega)
        have := HN.out
        omega
      generalize S[j] = s at hcell hrow
      obtain ⟨sa, sc⟩ := s
      simp only at hcell hrow
      have HC := Lib.hid (HM.out sc sa j hbnd hrow)
      rw [← hstep] at HC
      have hm2 : ((k + 3 * h * (j + 1) : Nat) : Int) ≤ 10000000 := by rw [hstep]; exact hbnd
      have hm3 : ¬ ((k + 3 * h * (j + 1) : Nat) : Int) < 0 := by omega
      clear hrow HM hbnd hstep
      generalize hz1 : ((k + 3 * h * (j + 1) : Nat) : Int) = z1 at HC hm2 hm3 ⊢
      generalize ((k + 3 * h * j : Nat) : Int) = z0 at HC ⊢
      have HZ1 := Lib.hid hz1
      clear hz1
      go_wp2_with fail
      refine HC.out.mono ?_
      rintro e wx ⟨rfl, rfl⟩
      go_wp2
      go_roundw
      case rel => exact ⟨j + 1, by omega, by go_num, by rw [HZ1.out], trivial⟩
      case measure => (simp [intOf] <;> omega)
    · obtain rfl : j = m := by omega
      go_wp2
      go_ret
      exact ⟨rfl, rfl⟩
end Go.Proofs.YtmaghekcpopepaaDoor.Dss
