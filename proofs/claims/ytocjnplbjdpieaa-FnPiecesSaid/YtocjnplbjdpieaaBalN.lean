/- The count of a region by the indexes of its cells, in the words of HasCell. -/
import Derived.Test.YtocjnplbjdpieaaBalP
namespace Go.Proofs.Ytocjnplbjdpieaa.Bal
set_option linter.unusedVariables false
open Go.Proofs.Ytocjnplbjdpieaa.Pure Go.Proofs.Ytocjnplbjdpieaa.Euler

theorem cR_has {xs : List Int} (ho : okR xs) {v : Nat} (hv : v < 100) : cR xs v = hasB xs (((v % 10 : Nat) : Int) - 1) (((v / 10 : Nat) : Int) - 1) := by
  rw [Bool.eq_iff_iff, hasB_iff]
  constructor
  · intro h
    have h2 := h
    unfold cR at h
    simp only [Bool.and_eq_true, Bool.not_eq_true'] at h
    obtain ⟨r, b⟩ := h
    unfold ring at r
    simp only [Bool.or_eq_false_iff, beq_eq_false_iff_ne, ne_eq] at r
    refine ⟨ho, by omega, by omega, by omega, by omega, ?_⟩
    unfold bitI oi at b
    rw [show (8 * (v / 10 - 1) + (v % 10 - 1)) / 8 = (((v / 10 : Nat) : Int) - 1).toNat by omega, show (8 * (v / 10 - 1) + (v % 10 - 1)) % 8 = (((v % 10 : Nat) : Int) - 1).toNat by omega] at b
    exact b
  · rintro ⟨_, x0, x7, y0, y7, b⟩
    unfold cR
    have r : ring v = false := by
      unfold ring
      simp only [Bool.or_eq_false_iff, beq_eq_false_iff_ne, ne_eq]
      omega
    rw [r]
    unfold bitI oi
    rw [show (8 * (v / 10 - 1) + (v % 10 - 1)) / 8 = (((v / 10 : Nat) : Int) - 1).toNat by omega, show (8 * (v / 10 - 1) + (v % 10 - 1)) % 8 = (((v % 10 : Nat) : Int) - 1).toNat by omega, b]
    rfl
/-- a count over the square of ten by ten of what holds of cells only. -/
theorem cnt_io {xs : List Int} {p : Nat → Bool} (h : ∀ v, v < 100 → p v = true → cR xs v = true) : cnt 100 p = cnt 64 (fun i => p (io i)) := by
  refine Nat.le_antisymm (cnt_inj _ _ _ _ oi ?_ ?_) (cnt_inj _ _ _ _ io ?_ ?_)
  · intro v hv hp
    obtain ⟨l, e, _⟩ := cR_in hv (h v hv hp)
    exact ⟨l, by rw [e]; exact hp⟩
  · intro u v hu hv h1 h2 e
    obtain ⟨_, e1, _⟩ := cR_in hu (h u hu h1)
    obtain ⟨_, e2, _⟩ := cR_in hv (h v hv h2)
    rw [← e1, ← e2, e]
  · intro i hi hp; exact ⟨(io_lt hi).1, hp⟩
  · intro i j _ _ _ _ e
    rw [← oi_io i, ← oi_io j, e]
def hasR (xs : List Int) (i : Nat) : Bool := hasB xs (((i % 8 : Nat) : Int) + 1) ((i / 8 : Nat) : Int)
def hasD (xs : List Int) (i : Nat) : Bool := hasB xs ((i % 8 : Nat) : Int) (((i / 8 : Nat) : Int) + 1)
def hasX (xs : List Int) (i : Nat) : Bool := hasB xs (((i % 8 : Nat) : Int) + 1) (((i / 8 : Nat) : Int) + 1)
theorem has_right {xs : List Int} (ho : okR xs) {i : Nat} (hi : i < 64) : cR xs (io i + 1) = hasR xs i := by
  unfold hasR
  rw [cR_has ho (by unfold io; omega)]
  congr 1 <;> (unfold io; omega)
theorem has_down {xs : List Int} (ho : okR xs) {i : Nat} (hi : i < 64) : cR xs (io i + 10) = hasD xs i := by
  unfold hasD
  rw [cR_has ho (by unfold io; omega)]
  congr 1 <;> (unfold io; omega)
theorem has_both {xs : List Int} (ho : okR xs) {i : Nat} (hi : i < 64) : cR xs (io i + 11) = hasX xs i := by
  unfold hasX
  rw [cR_has ho (by unfold io; omega)]
  congr 1 <;> (unfold io; omega)
/-- the least of its piece, by indexes. -/
def leastI (xs : List Int) (i : Nat) : Bool := (List.range i).all (fun j => !(bitI xs j && sameP xs i j))
theorem leastI_iff {xs : List Int} {i : Nat} : leastI xs i = true ↔ ∀ j, j < i → bitI xs j = true → sameP xs i j = false := by
  unfold leastI
  rw [List.all_eq_true]
  constructor
  · intro h j hj hb
    have := h j (List.mem_range.2 hj)
    rw [hb] at this
    simpa using this
  · intro h j hj
    cases hb : bitI xs j
    · rfl
    · rw [h j (List.mem_range.1 hj) hb]; rfl
theorem least_io {xs : List Int} {i : Nat} (hi : i < 64) (hb : bitI xs i = true) : least (pe xs) (io i) = leastI xs i := by
  have kc : ∀ v, cR xs (lab (pe xs) v) = cR xs v := lab_keeps (cR xs) (pe xs) (fun e he => by
    obtain ⟨a, b, ha, hb, rfl, _, b1, b2⟩ := pe_ends he
    show cR xs (io a) = cR xs (io b)
    rw [cR_io xs ha, cR_io xs hb, b1, b2])
  rw [Bool.eq_iff_iff, least_iff, leastI_iff]
  constructor
  · intro h j hj hbj
    have := h (io j) (io_mono hj)
    unfold sameP
    rw [beq_eq_false_iff_ne]
    exact this
  · intro h u hu e
    have hu1 : u < 100 := Nat.lt_trans hu (io_lt hi).1
    have c1 : cR xs u = true := by rw [← kc u, e, kc, cR_io xs hi, hb]
    obtain ⟨l, e1, b1⟩ := cR_in hu1 c1
    have lt : oi u < i := by
      rcases Nat.lt_trichotomy (oi u) i with q | q | q
      · exact q
      · rw [← e1, q] at hu; omega
      · have := io_mono q; rw [e1] at this; omega
    have := h (oi u) lt b1
    unfold sameP at this
    rw [beq_eq_false_iff_ne, e1] at this
    exact this e
/-- pieces; pieces outside, the one with the ring among them. -/
def piecesN (xs : List Int) : Nat := cnt 64 (fun i => bitI xs i && leastI xs i)
def outsN (xs : List Int) : Nat := cnt 100 (fun v => !cR xs v && least (h8 (cR xs)) v)
/-- cells minus pairs of neighbors plus squares of four is pieces minus holes. -/
theorem euler64 {xs : List Int} (ho : okR xs) :
    cnt 64 (bitI xs) + cnt 64 (fun i => bitI xs i && (hasR xs i && hasD xs i && hasX xs i)) + outsN xs = cnt 64 (fun i => bitI xs i && hasR xs i) + cnt 64 (fun i => bitI xs i && hasD xs i) + piecesN xs + 1 := by
  have h := euler_cells (cR_ring xs)
  rw [cnt_io (xs := xs) (p := cR xs) (fun v _ q => q),
    cnt_io (xs := xs) (p := toBoth (cR xs)) (fun v _ q => by unfold toBoth at q; simp only [Bool.and_eq_true] at q; exact q.1),
    cnt_io (xs := xs) (p := toRight (cR xs)) (fun v _ q => by unfold toRight at q; simp only [Bool.and_eq_true] at q; exact q.1),
    cnt_io (xs := xs) (p := toDown (cR xs)) (fun v _ q => by unfold toDown at q; simp only [Bool.and_eq_true] at q; exact q.1),
    cnt_io (xs := xs) (p := fun v => cR xs v && least ((eR (cR xs)).map gE) v) (fun v _ q => by simp only [Bool.and_eq_true] at q; exact q.1)] at h
  rw [cnt_same 64 (p := fun i => cR xs (io i)) (q := bitI xs) (fun i hi => cR_io xs hi),
    cnt_same 64 (p := fun i => toBoth (cR xs) (io i)) (q := fun i => bitI xs i && (hasR xs i && hasD xs i && hasX xs i)) (fun i hi => by unfold toBoth; rw [cR_io xs hi, has_right ho hi, has_down ho hi, has_both ho hi]),
    cnt_same 64 (p := fun i => toRight (cR xs) (io i)) (q := fun i => bitI xs i && hasR xs i) (fun i hi => by unfold toRight; rw [cR_io xs hi, has_right ho hi]),
    cnt_same 64 (p := fun i => toDown (cR xs) (io i)) (q := fun i => bitI xs i && hasD xs i) (fun i hi => by unfold toDown; rw [cR_io xs hi, has_down ho hi]),
    cnt_same 64 (p := fun i => cR xs (io i) && least ((eR (cR xs)).map gE) (io i)) (q := fun i => bitI xs i && leastI xs i) (fun i hi => by
      rw [cR_io xs hi]
      cases hb : bitI xs i
      · rfl
      · exact least_io hi hb)] at h
  exact h
/-- there is always the piece with the ring. -/
theorem outs_pos (xs : List Int) : 1 ≤ outsN xs := by
  unfold outsN
  rw [cnt_less _ 0 (by rw [cR_ring xs 0 (by omega) rfl]; rfl) 100 (by omega)]
  omega
end Go.Proofs.Ytocjnplbjdpieaa.Bal
