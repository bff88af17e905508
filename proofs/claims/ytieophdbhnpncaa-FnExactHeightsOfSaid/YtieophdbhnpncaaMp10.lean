/- KuL in one text. -/
import Derived.Test.YtieophdbhnpncaaMp06
import Derived.Test.YtieophdbhnpncaaMp09

/- From a partial list to what is joined, and back: what is greatest when joined is greatest as a list; a tiling is one of all; pure: no program here. -/
namespace Go.Proofs.Ytieophdbhnpncaa.KuL
set_option linter.unusedVariables false
set_option linter.unusedSimpArgs false
open Go.RowKit Go.Proofs.Ytieophdbhnpncaa.Base Go.Proofs.Ytieophdbhnpncaa.Pure Go.Proofs.Ytieophdbhnpncaa.Cell Go.Proofs.Ytieophdbhnpncaa.Dom Go.Proofs.Ytieophdbhnpncaa.Dms Go.Proofs.Ytieophdbhnpncaa.Til Go.Proofs.Ytieophdbhnpncaa.Grd Go.Proofs.Ytieophdbhnpncaa.Cnt Go.Proofs.Ytieophdbhnpncaa.Lis Go.Proofs.Ytieophdbhnpncaa.Kun

/-- black places. -/
def col (j : Nat) : Bool := decide ((j % 8 + j / 8) % 2 = 0)
theorem col_adj (a b : Nat) (_ : a < 64) (_ : b < 64) (h : adj a b = true) : col a = !col b := by
  rw [adj_iff] at h
  unfold col
  rw [Bool.eq_iff_iff]
  simp only [Bool.not_eq_true', decide_eq_true_eq, decide_eq_false_iff_not]
  rcases h with ⟨e, h⟩ | e | ⟨e, h⟩ | e
  · have h1 : b % 8 = a % 8 + 1 := by omega
    have h2 : b / 8 = a / 8 := by omega
    rw [h1, h2]; omega
  · have h1 : b % 8 = a % 8 := by omega
    have h2 : b / 8 = a / 8 + 1 := by omega
    rw [h1, h2]; omega
  · have h1 : a % 8 = b % 8 + 1 := by omega
    have h2 : a / 8 = b / 8 := by omega
    rw [h1, h2]; omega
  · have h1 : a % 8 = b % 8 := by omega
    have h2 : a / 8 = b / 8 + 1 := by omega
    rw [h1, h2]; omega
/-- a valid domino lies at a place. -/
theorem ok_dm {d : Dm} (h : okM d = true) : ∃ k b, d = dmN k b ∧ oth k b < 64 ∧ (b = false → k % 8 ≠ 7) := by
  have hi := okM_in h
  obtain ⟨x, y, b⟩ := d
  unfold okM domB at h
  rw [Bool.and_eq_true, okB_iff, okB_iff] at h
  obtain ⟨_, h⟩ := h
  simp only at hi h
  unfold Ok at h
  refine ⟨(y * 8 + x).toNat, b, ?_, ?_, ?_⟩
  · unfold dmN
    refine Prod.ext ?_ (Prod.ext ?_ rfl)
    · show x = (((y * 8 + x).toNat % 8 : Nat) : Int)
      omega
    · show y = (((y * 8 + x).toNat / 8 : Nat) : Int)
      omega
  · cases b <;> simp only [sx, sy, oth, Bool.false_eq_true, if_false, if_true] at h ⊢ <;> unfold wrap64 at h <;> omega
  · intro e; subst e
    simp only [sx, sy, Bool.false_eq_true, if_false] at h
    unfold wrap64 at h
    omega
theorem oth_adj {k : Nat} {b : Bool} (h : b = false → k % 8 ≠ 7) : adj k (oth k b) = true := by
  rw [adj_iff]; unfold oth
  cases b
  · exact .inl ⟨rfl, h rfl⟩
  · exact .inr (.inl rfl)
theorem oth_gt (k : Nat) (b : Bool) : k < oth k b := by unfold oth; split <;> omega
/-- the two places of a domino that is put are free. -/
theorem step_places {xs : List Int} {M : List Dm} {k : Nat} {b : Bool} (h1 : oth k b < 64) (h2 : b = false → k % 8 ≠ 7) (hs : stepB xs M (dmN k b) = true) : gM xs M k = true ∧ gM xs M (oth k b) = true := by
  obtain ⟨o1, o2, o3⟩ := oth_ok h1 h2
  have hk : k < 64 := by have := oth_gt k b; omega
  unfold stepB at hs
  rw [show (dmN k b).2.2 = b from rfl, o2, o3] at hs
  simp only [Bool.and_eq_true, Bool.not_eq_true'] at hs
  obtain ⟨_, ⟨a1, a2⟩, a3, a4⟩ := hs
  rw [gM_iff, gM_iff]
  exact ⟨⟨place_has hk a1, a2⟩, place_has h1 a3, a4⟩
/-- the black places of a region. -/
def Blk (xs : List Int) : Nat → Bool := fun u => gR xs u && col u
/-- what is joined lies under the list, as many as it has dominoes. -/
structure Und (xs : List Int) (M : List Dm) (K : Nat → Int) : Prop where
  mc : Mc (gR xs) col (Blk xs) K
  size : sz K = M.length
  wh : ∀ i, 0 ≤ K i → gM xs M i = false
  bk : ∀ i, 0 ≤ K i → gM xs M (K i).toNat = false
theorem Und.nil (xs : List Int) : Und xs [] (fun _ => -1) := by
  refine ⟨⟨⟨fun i => Int.le_refl _, fun i hi => by simp at hi⟩, fun i k hi => by simp at hi, fun i hi => by simp at hi⟩, ?_, fun i hi => by simp at hi, fun i hi => by simp at hi⟩
  show sz _ = 0
  unfold sz
  rw [List.length_eq_zero_iff, List.filter_eq_nil_iff]
  intro i _ hi
  rw [decide_eq_true_eq] at hi
  simp at hi
theorem g64 {xs : List Int} {M : List Dm} {j : Nat} (h : gM xs M j = true) : j < 64 := by
  by_cases r : j < 64
  · exact r
  · rw [gM_out xs M j (by omega)] at h; cases h
/-- two free neighbors are joined. -/
theorem Und.more {xs : List Int} {M : List Dm} {K : Nat → Int} (h : Und xs M K) {w v : Nat} (hw : gM xs M w = true) (hv : gM xs M v = true) (ha : adj v w = true) (cv : col v = true) :
    Mc (gR xs) col (Blk xs) (put K w (v : Int)) ∧ sz (put K w (v : Int)) = sz K + 1 := by
  have w64 := g64 hw
  have v64 := g64 hv
  have gw := (gM_iff.1 hw).1
  have gv := (gM_iff.1 hv).1
  have cw : col w = false := by
    have := col_adj v w v64 w64 ha
    rw [cv] at this
    cases hc : col w
    · rfl
    · rw [hc] at this; cases this
  have free : K w < 0 := by
    by_cases r : 0 ≤ K w
    · rw [h.wh w r] at hw; cases hw
    · omega
  have fresh : ∀ i, K i ≠ (v : Int) := fun i e => by
    have := h.bk i (by omega)
    rw [e, Int.toNat_natCast, hv] at this
    cases this
  refine ⟨⟨h.mc.mt.put w64 gw cw v64 gv cv ha, fun i k hi e => ?_, fun i hi => ?_⟩, sz_one w64 free (by rw [put_at]; omega) fun i hi => by rw [put_ne hi]⟩
  · by_cases e1 : i = w
    · by_cases e2 : k = w
      · rw [e1, e2]
      · subst e1
        rw [put_at, put_ne e2] at e
        exact absurd e.symm (fresh k)
    · by_cases e2 : k = w
      · subst e2
        rw [put_at, put_ne e1] at e
        exact absurd e (fresh i)
      · rw [put_ne e1] at hi
        rw [put_ne e1, put_ne e2] at e
        exact h.mc.inj i k hi e
  · by_cases e1 : i = w
    · subst e1
      rw [put_at, Int.toNat_natCast]
      unfold Blk; rw [gv, cv]; rfl
    · rw [put_ne e1] at hi ⊢
      exact h.mc.bl i hi
/-- one domino more. -/
theorem Und.step {xs : List Int} {M : List Dm} {K : Nat → Int} (h : Und xs M K) {d : Dm} (hs : stepB xs M d = true) : ∃ K', Und xs (M ++ [d]) K' := by
  obtain ⟨k, b, rfl, h1, h2⟩ := ok_dm (stepB_ok hs)
  obtain ⟨gk, go⟩ := step_places h1 h2 hs
  have ha := oth_adj h2
  have k64 := g64 gk
  have key : ∀ w v, ((w = k ∧ v = oth k b) ∨ (w = oth k b ∧ v = k)) → gM xs M w = true → gM xs M v = true → adj v w = true → col v = true → ∃ K', Und xs (M ++ [dmN k b]) K' := by
    intro w v hwv hw hv hvw cv
    obtain ⟨m, s⟩ := h.more hw hv hvw cv
    have gw : gM xs (M ++ [dmN k b]) w = false := by
      rw [gM_snoc h1 h2]
      apply Kun.not_true
      rw [rem_iff]
      rintro ⟨_, a, b⟩
      rcases hwv with ⟨e, _⟩ | ⟨e, _⟩
      · exact a e
      · exact b e
    have gv : gM xs (M ++ [dmN k b]) v = false := by
      rw [gM_snoc h1 h2]
      apply Kun.not_true
      rw [rem_iff]
      rintro ⟨_, a, b⟩
      rcases hwv with ⟨_, e⟩ | ⟨_, e⟩
      · exact b e
      · exact a e
    have old : ∀ j, gM xs M j = false → gM xs (M ++ [dmN k b]) j = false := fun j hj => by
      rw [gM_snoc h1 h2]
      apply Kun.not_true
      rw [rem_iff, hj]
      rintro ⟨a, _⟩
      cases a
    refine ⟨_, m, by rw [s, h.size, List.length_append]; rfl, fun i hi => ?_, fun i hi => ?_⟩
    · by_cases e : i = w
      · rw [e]; exact gw
      · rw [put_ne e] at hi; exact old i (h.wh i hi)
    · by_cases e : i = w
      · rw [e, put_at, Int.toNat_natCast]; exact gv
      · rw [put_ne e] at hi ⊢; exact old _ (h.bk i hi)
  cases hc : col k with
  | true => exact key (oth k b) k (.inr ⟨rfl, rfl⟩) go gk ha hc
  | false =>
    have := col_adj k (oth k b) k64 h1 ha
    rw [hc] at this
    exact key k (oth k b) (.inl ⟨rfl, rfl⟩) gk go (by rw [adj_comm]; exact ha) (by
      cases hq : col (oth k b)
      · rw [hq] at this; cases this
      · rfl)
theorem und_part {xs : List Int} {L : List Dm} (h : partB xs L = true) : ∃ K, Und xs L K := by
  obtain ⟨_, h⟩ := part_iff.1 h
  have key : ∀ k, k ≤ L.length → ∃ K, Und xs (L.take k) K := by
    intro k
    induction k with
    | zero => intro _; rw [List.take_zero]; exact ⟨_, Und.nil xs⟩
    | succ k ih =>
      intro hk
      obtain ⟨K, hK⟩ := ih (by omega)
      have hs := h k (by omega)
      rw [stpAt_of (by omega)] at hs
      rw [List.take_succ_eq_append_getElem (by omega)]
      exact hK.step hs
  have := key L.length (Nat.le_refl _)
  rwa [List.take_length] at this
/-- no partial list is longer. -/
theorem part_le {xs : List Int} {L : List Dm} (h : partB xs L = true) {J : Nat → Int} (hm : Max (gR xs) col (Blk xs) J) : L.length ≤ sz J := by
  obtain ⟨K, hK⟩ := und_part h
  rw [← hK.size]
  exact hm.2 K hK.mc
/-- no two neighbors stay free. -/
theorem no_more {xs : List Int} {M : List Dm} {J : Nat → Int} (hm : Max (gR xs) col (Blk xs) J) (hu : Und xs M J) {a b : Nat} (ha : gM xs M a = true) (hb : gM xs M b = true) (h : adj a b = true) : False := by
  have key : ∀ w v, gM xs M w = true → gM xs M v = true → adj v w = true → col v = true → False := fun w v hw hv hvw cv => by
    obtain ⟨m, s⟩ := hu.more hw hv hvw cv
    have := hm.2 _ m
    omega
  cases hc : col a with
  | true => exact key b a hb ha h hc
  | false =>
    have := col_adj a b (g64 ha) (g64 hb) h
    rw [hc] at this
    exact key a b ha hb (by rw [adj_comm]; exact h) (by
      cases hq : col b
      · rw [hq] at this; cases this
      · rfl)

/-! The list of what is joined. -/
/-- the domino over two neighbors. -/
def dm2 (a u : Nat) : Dm := if a < u then dmN a (decide (u = a + 8)) else dmN u (decide (a = u + 8))
theorem dm2_is {a u : Nat} (ha : a < 64) (hu : u < 64) (h : adj u a = true) : ∃ c b, dm2 a u = dmN c b ∧ oth c b < 64 ∧ (b = false → c % 8 ≠ 7) ∧ ((c = a ∧ oth c b = u) ∨ (c = u ∧ oth c b = a)) := by
  rw [adj_iff] at h
  unfold dm2
  by_cases e : a < u
  · rw [if_pos e]
    refine ⟨a, _, rfl, ?_⟩
    by_cases q : u = a + 8
    · rw [decide_eq_true q]
      exact ⟨(by unfold oth; simp; omega), (fun h => absurd h (by simp)), .inl ⟨rfl, (by unfold oth; simp; omega)⟩⟩
    · rw [decide_eq_false q]
      exact ⟨(by unfold oth; simp; omega), (fun _ => (by omega)), .inl ⟨rfl, (by unfold oth; simp; omega)⟩⟩
  · rw [if_neg e]
    refine ⟨u, _, rfl, ?_⟩
    by_cases q : a = u + 8
    · rw [decide_eq_true q]
      exact ⟨(by unfold oth; simp; omega), (fun h => absurd h (by simp)), .inr ⟨rfl, (by unfold oth; simp; omega)⟩⟩
    · rw [decide_eq_false q]
      exact ⟨(by unfold oth; simp; omega), (fun _ => (by omega)), .inr ⟨rfl, (by unfold oth; simp; omega)⟩⟩
theorem dm2_ok {a u : Nat} (ha : a < 64) (hu : u < 64) (h : adj u a = true) : okM (dm2 a u) = true := by
  obtain ⟨c, b, e, h1, h2, _⟩ := dm2_is ha hu h
  rw [e]; exact (oth_ok h1 h2).1
theorem dm2_cov {a u : Nat} (ha : a < 64) (hu : u < 64) (h : adj u a = true) (j : Nat) : covM (dm2 a u) ((j % 8 : Nat) : Int) ((j / 8 : Nat) : Int) = true ↔ j = a ∨ j = u := by
  obtain ⟨c, b, e, h1, h2, h3⟩ := dm2_is ha hu h
  rw [e, cov_dm h1 h2, Bool.or_eq_true, decide_eq_true_eq, decide_eq_true_eq]
  omega
/-- the dominoes of what is joined. -/
def js (J : Nat → Int) : List Nat := (List.range 64).filter fun i => decide (0 ≤ J i)
def dmsJ (J : Nat → Int) : List Dm := (js J).map fun i => dm2 i (J i).toNat
theorem mem_js {J : Nat → Int} {i : Nat} : i ∈ js J ↔ i < 64 ∧ 0 ≤ J i := by unfold js; rw [List.mem_filter, List.mem_range, decide_eq_true_eq]
theorem dmsJ_length (J : Nat → Int) : (dmsJ J).length = sz J := by unfold dmsJ; rw [List.length_map]; rfl
/-- two of them that share a place are one. -/
theorem share {g B : Nat → Bool} {J : Nat → Int} (hm : Mc g col B J) {i k j : Nat} (hi : 0 ≤ J i) (hk : 0 ≤ J k)
    (h1 : covM (dm2 i (J i).toNat) ((j % 8 : Nat) : Int) ((j / 8 : Nat) : Int) = true) (h2 : covM (dm2 k (J k).toNat) ((j % 8 : Nat) : Int) ((j / 8 : Nat) : Int) = true) : i = k := by
  obtain ⟨a1, a2, a3, a4, a5, a6, a7⟩ := hm.mt.ok i hi
  obtain ⟨b1, b2, b3, b4, b5, b6, b7⟩ := hm.mt.ok k hk
  rw [dm2_cov a1 a4 a7] at h1
  rw [dm2_cov b1 b4 b7] at h2
  rcases h1 with h1 | h1 <;> rcases h2 with h2 | h2
  · omega
  · rw [h1] at h2; rw [← h2, a3] at b6; cases b6
  · rw [h1] at h2; rw [h2, b3] at a6; cases a6
  · exact hm.inj i k hi (by omega)
theorem dmsJ_ok {g B : Nat → Bool} {J : Nat → Int} (hm : Mc g col B J) {d : Dm} (hd : d ∈ dmsJ J) : ∃ i, 0 ≤ J i ∧ d = dm2 i (J i).toNat ∧ okM d = true := by
  unfold dmsJ at hd
  rw [List.mem_map] at hd
  obtain ⟨i, hi, rfl⟩ := hd
  have h0 := (mem_js.1 hi).2
  obtain ⟨a1, a2, a3, a4, a5, a6, a7⟩ := hm.mt.ok i h0
  exact ⟨i, h0, rfl, dm2_ok a1 a4 a7⟩
theorem dmsJ_nodup {g B : Nat → Bool} {J : Nat → Int} (hm : Mc g col B J) : (dmsJ J).Nodup := by
  have h : (js J).Nodup := by unfold js; exact List.Pairwise.filter _ List.nodup_range
  unfold dmsJ
  rw [List.Nodup, List.pairwise_map]
  refine List.Pairwise.imp_of_mem (fun {i k} hi hk hne e => hne ?_) h
  have hi := (mem_js.1 hi).2
  have hk := (mem_js.1 hk).2
  obtain ⟨a1, a2, a3, a4, a5, a6, a7⟩ := hm.mt.ok i hi
  have c := (dm2_cov a1 a4 a7 i).2 (.inl rfl)
  exact share hm hi hk c (by rw [← e]; exact c)
theorem inc_nodup {M : List Dm} (h : Inc M) : M.Nodup := List.Pairwise.imp (fun {a b} q e => by subst e; rw [befM_irrefl] at q; cases q) h
/-- the list that is built of them, in order. -/
theorem sortJ_mem {g B : Nat → Bool} {J : Nat → Int} (hm : Mc g col B J) (d : Dm) : d ∈ sortM (dmsJ J) ↔ d ∈ dmsJ J := by
  rw [(sortM_good _).2]
  exact ⟨fun h => h.1, fun h => ⟨h, by obtain ⟨_, _, _, q⟩ := dmsJ_ok hm h; exact q⟩⟩
theorem sortJ_length {g B : Nat → Bool} {J : Nat → Int} (hm : Mc g col B J) : (sortM (dmsJ J)).length = sz J := by
  rw [← dmsJ_length]
  exact ((List.perm_ext_iff_of_nodup (inc_nodup (sortM_good _).1) (dmsJ_nodup hm)).2 (sortJ_mem hm)).length_eq
theorem sortJ_step {xs : List Int} (ho : okR xs) {B : Nat → Bool} {J : Nat → Int} (hm : Mc (gR xs) col B J) {k : Nat} (hk : k < (sortM (dmsJ J)).length) : stepB xs ((sortM (dmsJ J)).take k) (sortM (dmsJ J))[k] = true := by
  have hinc := (sortM_good (dmsJ J)).1
  have hmem := sortJ_mem hm
  generalize hM : sortM (dmsJ J) = M at *
  obtain ⟨i, hi, hd, hok⟩ := dmsJ_ok hm ((hmem M[k]).1 (List.getElem_mem hk))
  obtain ⟨a1, a2, a3, a4, a5, a6, a7⟩ := hm.mt.ok i hi
  have hbef : ∀ p ∈ M.take k, befM p M[k] = true := fun p hp => by
    obtain ⟨j, hj, e⟩ := List.getElem_of_mem hp
    rw [List.length_take] at hj
    rw [List.getElem_take] at e
    rw [← e]
    exact List.pairwise_iff_getElem.1 hinc j k (by omega) hk (by omega)
  have hfree : ∀ j, covM M[k] ((j % 8 : Nat) : Int) ((j / 8 : Nat) : Int) = true → anyM (M.take k) ((j % 8 : Nat) : Int) ((j / 8 : Nat) : Int) = false := fun j hj => by
    apply Kun.not_true
    intro h
    unfold anyM at h
    rw [List.any_eq_true] at h
    obtain ⟨p, hp, hc⟩ := h
    obtain ⟨i', hi', hd', _⟩ := dmsJ_ok hm ((hmem p).1 (List.mem_of_mem_take hp))
    have hb := hbef p hp
    have : i' = i := share hm hi' hi (by rw [← hd']; exact hc) (by rw [← hd]; exact hj)
    subst this
    rw [← hd] at hd'
    rw [hd', befM_irrefl] at hb
    cases hb
  obtain ⟨c, b, e, h1, h2, h3⟩ := dm2_is a1 a4 a7
  rw [← hd] at e
  obtain ⟨o1, o2, o3⟩ := oth_ok h1 h2
  have gc : gR xs c = true ∧ gR xs (oth c b) = true := by
    rcases h3 with ⟨p, q⟩ | ⟨p, q⟩
    · rw [q, p]; exact ⟨a2, a5⟩
    · rw [q, p]; exact ⟨a5, a2⟩
  have f1 := hfree c (by rw [e, cov_dm h1 h2]; simp)
  have f2 := hfree (oth c b) (by rw [e, cov_dm h1 h2]; simp)
  rw [e] at hbef ⊢
  unfold stepB
  rw [show (dmN c b).2.2 = b from rfl, o2, o3, has_place ho gc.2, f2]
  show (_ && ((hasB xs ((c % 8 : Nat) : Int) ((c / 8 : Nat) : Int) && !anyM (M.take k) ((c % 8 : Nat) : Int) ((c / 8 : Nat) : Int)) && _)) = true
  rw [has_place ho gc.1, f1]
  cases hl : (M.take k).getLast? with
  | none => rfl
  | some p =>
    have hb := hbef p (List.mem_of_getLast? hl)
    simp [hb]
/-- it is partial. -/
theorem sortJ_part {xs : List Int} (ho : okR xs) {B : Nat → Bool} {J : Nat → Int} (hm : Mc (gR xs) col B J) : partB xs (sortM (dmsJ J)) = true :=
  part_yes (okRB_iff.2 ho) fun k hk => by rw [stpAt_of hk]; exact sortJ_step ho hm hk
/-- what is joined lies under it. -/
theorem sortJ_und {xs : List Int} {J : Nat → Int} (hm : Mc (gR xs) col (Blk xs) J) : Und xs (sortM (dmsJ J)) J := by
  have key : ∀ i j, 0 ≤ J i → (j = i ∨ j = (J i).toNat) → gM xs (sortM (dmsJ J)) j = false := fun i j hi hj => by
    obtain ⟨a1, a2, a3, a4, a5, a6, a7⟩ := hm.mt.ok i hi
    apply Kun.not_true
    rw [gM_iff]
    rintro ⟨_, h⟩
    have : anyM (sortM (dmsJ J)) ((j % 8 : Nat) : Int) ((j / 8 : Nat) : Int) = true := by
      unfold anyM
      rw [List.any_eq_true]
      refine ⟨dm2 i (J i).toNat, (sortJ_mem hm _).2 ?_, (dm2_cov a1 a4 a7 j).2 hj⟩
      unfold dmsJ
      exact List.mem_map.2 ⟨i, mem_js.2 ⟨a1, hi⟩, rfl⟩
    rw [this] at h; cases h
  exact ⟨hm, (sortJ_length hm).symm, fun i hi => key i i hi (.inl rfl), fun i hi => key i _ hi (.inr rfl)⟩

/-! A tiling is one of all. -/
theorem til_mem {xs : List Int} (ho : okR xs) {L : List Dm} (hp : partB xs L = true) (hz : ∀ i, i < 64 → gM xs L i = false) : ∀ (n k : Nat) (M R : List Dm), k + n = 64 → L = M ++ R → (∀ i, i < k → gM xs M i = false) → R ∈ Ls n k (gM xs M)
  | 0, k, M, R, hk, hL, h0 => by
    cases R with
    | nil => unfold Ls; simp
    | cons d R =>
      obtain ⟨_, h⟩ := part_iff.1 hp
      have hs := h M.length (by rw [hL]; simp)
      rw [hL, show M ++ d :: R = (M ++ [d]) ++ R by simp, stp_app (by simp), stp_last] at hs
      obtain ⟨c, b, rfl, h1, h2⟩ := ok_dm (stepB_ok hs)
      have := (step_places h1 h2 hs).1
      have c64 := g64 this
      rw [h0 c (by omega)] at this
      cases this
  | n + 1, k, M, R, hk, hL, h0 => by
    cases hg : gM xs M k with
    | false =>
      rw [Ls_no hg]
      refine til_mem ho hp hz n (k + 1) M R (by omega) hL fun i hi => ?_
      by_cases e : i = k
      · rw [e]; exact hg
      · exact h0 i (by omega)
    | true =>
      cases R with
      | nil =>
        rw [List.append_nil] at hL
        rw [← hL, hz k (by omega)] at hg
        cases hg
      | cons d R =>
        obtain ⟨_, h⟩ := part_iff.1 hp
        have hs := h M.length (by rw [hL]; simp)
        rw [hL, show M ++ d :: R = (M ++ [d]) ++ R by simp, stp_app (by simp), stp_last] at hs
        have hI : Inc (d :: R) := by
          have := part_inc hp
          rw [hL] at this
          exact (List.pairwise_append.1 this).2.1
        obtain ⟨c, b, rfl, h1, h2⟩ := ok_dm (stepB_ok hs)
        obtain ⟨gc, go⟩ := step_places h1 h2 hs
        have hck : k ≤ c := by
          by_cases q : k ≤ c
          · exact q
          · rw [h0 c (by omega)] at gc; cases gc
        have hkc : c = k := by
          by_cases q : c = k
          · exact q
          · exfalso
            have hcov : anyM L ((k % 8 : Nat) : Int) ((k / 8 : Nat) : Int) = true := by
              have z := hz k (by omega)
              have gk := (gM_iff.1 hg).1
              unfold gM at z
              rw [gk] at z
              simpa using z
            have hnM := (gM_iff.1 hg).2
            rw [hL] at hcov
            unfold anyM at hcov hnM
            rw [List.any_append, hnM, Bool.false_or, List.any_eq_true] at hcov
            obtain ⟨e, he, hc⟩ := hcov
            have hoe : okM e = true := by unfold covM at hc; rw [Bool.and_eq_true] at hc; exact hc.1
            obtain ⟨c', b', rfl, q1, q2⟩ := ok_dm hoe
            have hle : c ≤ c' := by
              rcases List.mem_cons.1 he with e1 | e1
              · have e2 := congrArg Prod.fst e1
                have e3 := congrArg (fun p : Dm => p.2.1) e1
                unfold dmN at e2 e3
                simp only at e2 e3
                omega
              · have hb := (List.pairwise_cons.1 hI).1 _ e1
                rw [befM_iff] at hb
                obtain ⟨_, _, hb⟩ := hb
                unfold dmN at hb
                simp only at hb
                omega
            rw [cov_dm q1 q2, Bool.or_eq_true, decide_eq_true_eq, decide_eq_true_eq] at hc
            have := oth_gt c' b'
            omega
        subst hkc
        have ih := til_mem ho hp hz n (c + 1) (M ++ [dmN c b]) R (by omega) (by rw [hL]; simp) fun i hi => by
          rw [gM_snoc h1 h2]
          apply Kun.not_true
          rw [rem_iff]
          rintro ⟨a, e, _⟩
          rw [h0 i (by omega)] at a
          cases a
        rw [gM_snoc h1 h2] at ih
        rw [Ls_yes hg, List.mem_append]
        cases b with
        | false =>
          left
          rw [if_pos ⟨h2 rfl, go⟩, List.mem_map]
          exact ⟨R, ih, rfl⟩
        | true =>
          right
          rw [if_pos (show gM xs M (c + 8) = true from go), List.mem_map]
          exact ⟨R, ih, rfl⟩
theorem til_all {xs : List Int} (ho : okR xs) {L : List Dm} (h : tilB xs L = true) : L ∈ allT xs := by
  unfold tilB at h
  rw [Bool.and_eq_true] at h
  have := til_mem ho h.1 (unc_none ho (of_decide_eq_true h.2)) 64 0 [] L rfl rfl fun i hi => by omega
  rw [gM_nil] at this
  exact this
/-- tilings are there when the greatest partial list covers all cells, and only then. -/
theorem most_til {xs : List Int} (ho : okR xs) {J : Nat → Int} (hm : Max (gR xs) col (Blk xs) J) : 2 * sz J = (cellsR xs).length ↔ 0 < tilesR xs := by
  rw [← all_length ho]
  constructor
  · intro h
    have hp := sortJ_part ho hm.1
    have ht : tilB xs (sortM (dmsJ J)) = true := by
      rw [tilB_count hp, decide_eq_true_eq, sortJ_length hm.1]; exact h
    have := List.length_pos_of_mem (til_all ho ht)
    omega
  · intro h
    have h : 0 < (allT xs).length := by omega
    have hL := List.getElem_mem h
    have ht := all_til ho _ hL
    have hp : partB xs (allT xs)[0] = true := by unfold tilB at ht; rw [Bool.and_eq_true] at ht; exact ht.1
    have h1 := part_le hp hm
    have h2 := tilB_count hp
    rw [ht] at h2
    have h2 := of_decide_eq_true h2.symm
    have h3 := unc_part (sortJ_part ho hm.1)
    rw [sortJ_length hm.1] at h3
    omega
/-! The model's words for these. -/
theorem col_black {j : Nat} (hj : j < 64) : blackB ((j % 8 : Nat) : Int) ((j / 8 : Nat) : Int) = col j := by
  rw [Bool.eq_iff_iff, blackB_iff]
  unfold col Ok
  rw [decide_eq_true_eq]
  omega
theorem nb_adj {a b : Nat} (ha : a < 64) (hb : b < 64) : nbB ((a % 8 : Nat) : Int) ((a / 8 : Nat) : Int) ((b % 8 : Nat) : Int) ((b / 8 : Nat) : Int) = adj a b := by
  rw [Bool.eq_iff_iff, adj_iff]
  unfold nbB Ok
  rw [decide_eq_true_eq]
  constructor
  · rintro ⟨_, _, ⟨h1, h2 | h2⟩ | ⟨h1, h2 | h2⟩⟩ <;> omega
  · rintro (⟨h1, h2⟩ | h1 | ⟨h1, h2⟩ | h1)
    · exact ⟨by omega, by omega, .inr ⟨by omega, .inr (by omega)⟩⟩
    · exact ⟨by omega, by omega, .inl ⟨by omega, .inr (by omega)⟩⟩
    · exact ⟨by omega, by omega, .inr ⟨by omega, .inl (by omega)⟩⟩
    · exact ⟨by omega, by omega, .inl ⟨by omega, .inl (by omega)⟩⟩
theorem mn_le {a b : Int} (h : a ≤ b) : mn a b = a := if_neg (by omega)
theorem mn_ge {a b : Int} (h : b ≤ a) : mn a b = b := by unfold mn; split <;> omega
/-- the domino over two neighbors, as the model makes it. -/
theorem dm2_over {a u : Nat} (ha : a < 64) (hu : u < 64) (h : adj u a = true) : dm2 a u = (mn ((a % 8 : Nat) : Int) ((u % 8 : Nat) : Int), mn ((a / 8 : Nat) : Int) ((u / 8 : Nat) : Int), decide (((a % 8 : Nat) : Int) = ((u % 8 : Nat) : Int))) := by
  rw [adj_iff] at h
  unfold dm2
  by_cases e : a < u
  · rw [if_pos e]
    refine Prod.ext (show ((a % 8 : Nat) : Int) = mn ((a % 8 : Nat) : Int) ((u % 8 : Nat) : Int) from (mn_le (by omega)).symm) (Prod.ext (show ((a / 8 : Nat) : Int) = mn ((a / 8 : Nat) : Int) ((u / 8 : Nat) : Int) from (mn_le (by omega)).symm) ?_)
    show decide (u = a + 8) = decide _
    rw [Bool.eq_iff_iff, decide_eq_true_eq, decide_eq_true_eq]; omega
  · rw [if_neg e]
    refine Prod.ext (show ((u % 8 : Nat) : Int) = mn ((a % 8 : Nat) : Int) ((u % 8 : Nat) : Int) from (mn_ge (by omega)).symm) (Prod.ext (show ((u / 8 : Nat) : Int) = mn ((a / 8 : Nat) : Int) ((u / 8 : Nat) : Int) from (mn_ge (by omega)).symm) ?_)
    show decide (a = u + 8) = decide _
    rw [Bool.eq_iff_iff, decide_eq_true_eq, decide_eq_true_eq]; omega
/-- the black places of a region, in order; what is joined when all have been tried. -/
def blks (xs : List Int) : List Nat := (List.range 64).filter (Blk xs)
def joined (xs : List Int) : Nat → Int := allF (gR xs) 66 (blks xs) (fun _ => -1)
theorem joined_max (xs : List Int) : Max (gR xs) col (Blk xs) (joined xs) := by
  have h := max_all (g := gR xs) (col := col) col_adj (f := 66) (by omega) (blks xs) (fun _ => false) (fun _ => -1) (max_start _ _) (by unfold blks; exact List.Pairwise.filter _ List.nodup_range) (fun v hv => by
    unfold blks at hv
    rw [List.mem_filter, List.mem_range] at hv
    obtain ⟨h1, h2⟩ := hv
    unfold Blk at h2
    rw [Bool.and_eq_true] at h2
    exact ⟨h1, h2.1, h2.2, rfl⟩)
  have e : (fun u => (fun _ => false) u || decide (u ∈ blks xs)) = Blk xs := by
    funext u
    show (false || decide (u ∈ blks xs)) = _
    rw [Bool.false_or, Bool.eq_iff_iff, decide_eq_true_eq]
    unfold blks
    rw [List.mem_filter, List.mem_range]
    refine ⟨fun h => h.2, fun h => ⟨?_, h⟩⟩
    by_cases r : u < 64
    · exact r
    · unfold Blk at h; rw [gR_out xs u (by omega)] at h; cases h
  rw [e] at h
  exact h
/-- the greatest list, and how long it is. -/
def matchR (xs : List Int) : List Dm := if okRB xs then sortM (dmsJ (joined xs)) else []
theorem matchR_length {xs : List Int} (ho : okR xs) : (matchR xs).length = sz (joined xs) := by
  unfold matchR; rw [if_pos (okRB_iff.2 ho)]; exact sortJ_length (joined_max xs).1
theorem matchR_part {xs : List Int} (ho : okR xs) : partB xs (matchR xs) = true := by
  unfold matchR; rw [if_pos (okRB_iff.2 ho)]; exact sortJ_part ho (joined_max xs).1
theorem matchR_und {xs : List Int} (ho : okR xs) : Und xs (matchR xs) (joined xs) := by
  unfold matchR; rw [if_pos (okRB_iff.2 ho)]; exact sortJ_und (joined_max xs).1
theorem matchR_most {xs : List Int} {L : List Dm} (h : partB xs L = true) : L.length ≤ (matchR xs).length := by
  rw [matchR_length (okRB_iff.1 (part_iff.1 h).1)]; exact part_le h (joined_max xs)
theorem matchR_til {xs : List Int} (ho : okR xs) : 2 * (matchR xs).length = (cellsR xs).length ↔ 0 < tilesR xs := by
  rw [matchR_length ho]; exact most_til ho (joined_max xs)
/-- two free neighbors. -/
def extB (xs : List Int) (L : List Dm) : Bool := partB xs L && (List.range 64).any fun a => gM xs L a && (List.range 64).any fun b => gM xs L b && adj a b
theorem matchR_ext (xs : List Int) : extB xs (matchR xs) = false := by
  apply Kun.not_true
  unfold extB
  rw [Bool.and_eq_true, List.any_eq_true]
  rintro ⟨hp, a, _, h⟩
  rw [Bool.and_eq_true, List.any_eq_true] at h
  obtain ⟨ha, b, _, h⟩ := h
  rw [Bool.and_eq_true] at h
  exact no_more (joined_max xs) (matchR_und (okRB_iff.1 (part_iff.1 hp).1)) ha h.1 h.2
end Go.Proofs.Ytieophdbhnpncaa.KuL
