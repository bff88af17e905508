/- TilM, TilN in one text. -/
import Derived.Test.YtieophdbhnpncaaMp03
import Derived.Test.YtieophdbhnpncaaMp23
import Derived.Test.YtieophdbhnpncaaMp36
import Derived.Test.YtieophdbhnpncaaMp04
import Derived.Laws.OwnMore
import Derived.Deep.RegionHeld3

/- What the laws do with slices of dominoes: one is copied, two are compared, numbers are written into one and read again. -/
namespace Go.Proofs.Ytieophdbhnpncaa.Til
set_option linter.unusedVariables false
set_option linter.unusedSimpArgs false
open Go.RowKit Go.Proofs.Ytieophdbhnpncaa.Base Go.Proofs.Ytieophdbhnpncaa.Pure Go.Proofs.Ytieophdbhnpncaa.Cell Go.Proofs.Ytieophdbhnpncaa.Dom Go.Proofs.Ytieophdbhnpncaa.Dms Go.Joins
open Go.Proofs.Ytieophdbhnpncaa.Reg hiding Yes add_none

theorem domInfo : (Try.prog.info? 63).map (fun i => (i.zero, i.size, i.bytes)) = some (some (.agg #[.int .i64 0, .int .i64 0, .bool false]), 3, 24) := by kernel_rfl
theorem made3 (n : Nat) : (madeCells #[.int .i64 0, .int .i64 0, .bool false] (n * 3)).toList = rowM (List.replicate n (0, 0, false)) := by
  apply List.ext_getElem?
  intro j
  by_cases hj : j < n * 3
  · have h := rowM_at (List.replicate n (0, 0, false)) (j / 3) (0, 0, false) (by rw [List.getElem?_replicate]; simp; omega)
    obtain ⟨h0, h1, h2⟩ := h
    simp only [madeCells, Array.toList_map, Array.toList_range, List.getElem?_map, List.getElem?_range hj, Option.map_some]
    have hc : j = j / 3 * 3 ∨ j = j / 3 * 3 + 1 ∨ j = j / 3 * 3 + 2 := by omega
    rcases hc with e | e | e
    · rw [show j % (#[Value.int .i64 0, .int .i64 0, .bool false] : Array Value).size = 0 by show j % 3 = 0; omega]
      rw [← e] at h0; rw [h0]; rfl
    · rw [show j % (#[Value.int .i64 0, .int .i64 0, .bool false] : Array Value).size = 1 by show j % 3 = 1; omega]
      rw [← e] at h1; rw [h1]; rfl
    · rw [show j % (#[Value.int .i64 0, .int .i64 0, .bool false] : Array Value).size = 2 by show j % 3 = 2; omega]
      rw [← e] at h2; rw [h2]; rfl
  · rw [List.getElem?_eq_none (by simp [madeCells]; omega), List.getElem?_eq_none (by rw [rowM_length, List.length_replicate]; omega)]

set_option maxHeartbeats 400000 in
theorem szDominoS (A : Option Addr) (n cap : Nat) (left : Int) (h0 : 0 ≤ left) (h1 : left ≤ 1048576) (hn : (n : Int) ≤ 9223372036854775807) (w : World) :
    Calls Try.prog 9 #[.slice A n cap, .int .i64 left] w fun e w' => e = .returned (.int .i64 (szR left n)) ∧ w' = w := by
  by_cases h : (n : Int) ≤ left
  · have HE := Lib.hid (show szR left n = left - n by unfold szR; rw [if_pos h])
    have h2 : ¬ left - (n : Int) < 0 := by omega
    go_enter Try.func9, Try.ntmps9
    go_wp2
    go_ret
    exact ⟨by rw [HE.out]; rfl, rfl⟩
  · have HE := Lib.hid (show szR left n = -1 by unfold szR; rw [if_neg h])
    have h2 : left - (n : Int) < 0 := by omega
    go_enter Try.func9, Try.ntmps9
    go_wp2
    go_ret
    exact ⟨by rw [HE.out]; rfl, rfl⟩

/-- dominoes in memory of the call's own. -/
def DmPost (L : List Dm) (n : Nat) (w : World) (e : Ending) (w' : World) : Prop :=
  ∃ A cap, e = .returned (.slice A n cap) ∧ n ≤ cap ∧ w'.ownsRow w.heap.size 63 3 (.slice A n cap) n (rowM L) ∧ Below w.heap.size w w'
theorem dm_step (L M : List Dm) (n k : Nat) (hx : L.length = n) (hk : k < n) :
    (((rowM (L.take k ++ List.replicate (n - k) (0, 0, false))).set (k * 3) (.int .i64 L[k].1)).set (k * 3 + 1) (.int .i64 L[k].2.1)).set (k * 3 + 2) (.bool L[k].2.2) = rowM (L.take (k + 1) ++ List.replicate (n - (k + 1)) (0, 0, false)) := by
  rw [show n - k = (n - (k + 1)) + 1 by omega, List.replicate_succ, rowM_put (L.take k) (0, 0, false) L[k] _ k (by rw [List.length_take]; omega), List.take_succ_eq_append_getElem (by omega), List.append_assoc]
  rfl

set_option maxRecDepth 100000 in
set_option maxHeartbeats 1000000 in
theorem toDominoS (w : World) (A : Option Addr) (n cap B : Nat) (L : List Dm) (hx : L.length = n) (hn : (n : Int) ≤ 1048576) (h : RowM w B A L) (hB : B ≤ w.heap.size) :
    Calls Try.prog 12 #[.slice A n cap] w (DmPost L n w) := by
  obtain ⟨i0, hi, hz0, hz1, hz2⟩ := info_parts domInfo
  obtain ⟨b, off, hA, hc⟩ := h.at
  have HA := Lib.hid hA
  have HC := Lib.hid hc
  have HX := Lib.hid hx
  clear hA hc hx h
  go_enter Try.func12, Try.ntmps12
  go_wp2_with (first
    | (at_make; refine wpList_make_full _ rfl _ _ 33 rfl w.heap.size 63 i0 (.agg #[.int .i64 0, .int .i64 0, .bool false]) 3 Try.underlying33 hi hz0 hz1 .i64 .i64 (n : Int) (n : Int) n rfl rfl rfl rfl (by rw [hz2]; omega) (by unfold maxLen; omega) (by omega) ?_; intro w1 hown1 hg1))
  have hb1 : Below w.heap.size w w1 := (Below.refl _ _).grown hg1 (by omega) (by simp)
  have HO := Lib.hid (show w1.ownsRow w.heap.size 63 3 (.slice (some ⟨w.heap.size, 0, none⟩) n n) n (rowM (L.take 0 ++ List.replicate (n - 0) (0, 0, false))) by
    rw [show (Value.agg #[.int .i64 0, .int .i64 0, .bool false]).cells = #[.int .i64 0, .int .i64 0, .bool false] from rfl, made3] at hown1
    simpa using hown1)
  clear hown1 hg1 hi hz0 hz1 hz2
  go_loopw [4] (fun i wr => ∃ k : Nat, k ≤ n ∧ i = .int .i64 k ∧ wr.ownsRow w.heap.size 63 3 (.slice (some ⟨w.heap.size, 0, none⟩) n n) n (rowM (L.take k ++ List.replicate (n - k) (0, 0, false))) ∧ Below w.heap.size w wr) (fun i _ => n - (intOf i).toNat)
  case atStart => exact ⟨0, Nat.zero_le _, rfl, HO.out, hb1⟩
  case round =>
    clear HO hb1
    obtain ⟨k, hk, rfl, hown, hb⟩ := hrel
    have hbs := hb.size
    by_cases hlt : k < n
    · have hkx : k < L.length := by have := HX.out; omega
      obtain ⟨rfl, hbw⟩ := HA.out (by omega)
      obtain ⟨c0, c1, c2⟩ := HC.out k hkx
      have c0 := (hb.cell (p := ⟨b, off + k * 3, none⟩) (by show b < _; omega)).trans c0
      have c1 := (hb.cell (p := ⟨b, off + k * 3 + 1, none⟩) (by show b < _; omega)).trans c1
      have c2 := (hb.cell (p := ⟨b, off + k * 3 + 2, none⟩) (by show b < _; omega)).trans c2
      have HST := Lib.hid (dm_step L L n k HX.out hlt)
      generalize L[k] = d at c0 c1 c2 HST
      obtain ⟨x, y, bb⟩ := d
      simp only at c0 c1 c2
      have HOwn := Lib.hid hown
      have HBw := Lib.hid hb
      clear hown hb
      go_wp2_with fail
      refine (toDomino x y bb _).mono ?_
      rintro e w2 ⟨rfl, hb2⟩
      have hown := Reg.own_below HOwn.out hb2 (Nat.le_refl _)
      have hb := HBw.out.trans (hb2.mono hbs)
      have hu : ∀ m, m < n * 3 → ∃ u, w2.cell? ⟨w.heap.size, m, none⟩ = some u := fun m hm => by
        have hlen := hown.1
        rw [hown.cellAt m (by omega)]; exact ⟨_, List.getElem?_eq_getElem (by omega)⟩
      obtain ⟨u0, hu0⟩ := hu (k * 3) (by omega)
      obtain ⟨u1, hu1⟩ := hu (k * 3 + 1) (by omega)
      obtain ⟨u2, hu2⟩ := hu (k * 3 + 2) (by omega)
      have hf0 := hown.frozenAt (k * 3)
      have hf1 := hown.frozenAt (k * 3 + 1)
      have hf2 := hown.frozenAt (k * 3 + 2)
      obtain ⟨hst, _⟩ := hown.stored (k * 3) (.int .i64 x)
      obtain ⟨hst, _⟩ := hst.stored (k * 3 + 1) (.int .i64 y)
      obtain ⟨hst, _⟩ := hst.stored (k * 3 + 2) (.bool bb)
      rw [HST.out] at hst
      have R := Lib.hid hst
      have hb3 := ((hb.setCell (p := ⟨w.heap.size, k * 3, none⟩) (Nat.le_refl _) (.int .i64 x)).setCell (p := ⟨w.heap.size, k * 3 + 1, none⟩) (Nat.le_refl _) (.int .i64 y)).setCell (p := ⟨w.heap.size, k * 3 + 2, none⟩) (Nat.le_refl _) (.bool bb)
      have HB3 := Lib.hid hb3
      clear hown hst hb3 hb c0 c1 c2 hb2 hu HOwn HBw HST
      go_wp2
      go_roundw
      case rel => exact ⟨k + 1, by omega, by go_num, R.out, HB3.out⟩
      case measure => (simp [intOf] <;> omega)
    · obtain rfl : k = n := by omega
      have R := Lib.hid (show wr.ownsRow w.heap.size 63 3 (.slice (some ⟨w.heap.size, 0, none⟩) k k) k (rowM L) by
        have e : rowM (L.take k ++ List.replicate (k - k) (0, 0, false)) = rowM L := by rw [List.take_of_length_le (by rw [HX.out]; omega), Nat.sub_self]; simp
        rw [e] at hown; exact hown)
      clear hown
      go_wp2
      go_ret
      exact ⟨_, _, rfl, Nat.le_refl _, R.out, hb⟩

set_option maxRecDepth 100000 in
set_option maxHeartbeats 1000000 in
theorem eqDoms (w : World) (A A' : Option Addr) (n cap cap' B B' : Nat) (L : List Dm) (hx : L.length = n) (hl : (n : Int) ≤ 9223372036854775807) (h1 : RowM w B A L) (h2 : RowM w B' A' L) (hB : B ≤ w.heap.size) (hB' : B' ≤ w.heap.size) :
    Calls Try.prog 16 #[.slice A n cap, .slice A' n cap'] w (Bol true w) := by
  obtain ⟨b, off, hA, hc⟩ := h1.at
  obtain ⟨b', off', hA', hc'⟩ := h2.at
  have H1 := Lib.hid hA
  have H2 := Lib.hid hA'
  have H3 := Lib.hid hc
  have H4 := Lib.hid hc'
  have HX := Lib.hid hx
  clear hA hA' hc hc' h1 h2 hx
  have hnn : (((n : Nat) : Int) != ((n : Nat) : Int)) = false := by simp
  go_enter Try.func16, Try.ntmps16
  go_wp2_with fail
  go_loopw [5] (fun i wr => ∃ k : Nat, k ≤ n ∧ i = .int .i64 k ∧ Below w.heap.size w wr) (fun i _ => n - (intOf i).toNat)
  case atStart => exact ⟨0, Nat.zero_le _, rfl, Below.refl _ _⟩
  case round =>
    obtain ⟨k, hk, rfl, hb⟩ := hrel
    have hbs := hb.size
    by_cases hlt : k < n
    · have hkx : k < L.length := by have := HX.out; omega
      obtain ⟨rfl, hbw⟩ := H1.out (by omega)
      obtain ⟨rfl, hbw'⟩ := H2.out (by omega)
      obtain ⟨c1, c2, c3⟩ := H3.out k hkx
      obtain ⟨d1, d2, d3⟩ := H4.out k hkx
      have c1' := (hb.cell (p := ⟨b, off + k * 3, none⟩) (by show b < _; omega)).trans c1
      have c2' := (hb.cell (p := ⟨b, off + k * 3 + 1, none⟩) (by show b < _; omega)).trans c2
      have c3' := (hb.cell (p := ⟨b, off + k * 3 + 2, none⟩) (by show b < _; omega)).trans c3
      have d1' := (hb.cell (p := ⟨b', off' + k * 3, none⟩) (by show b' < _; omega)).trans d1
      have d2' := (hb.cell (p := ⟨b', off' + k * 3 + 1, none⟩) (by show b' < _; omega)).trans d2
      have d3' := (hb.cell (p := ⟨b', off' + k * 3 + 2, none⟩) (by show b' < _; omega)).trans d3
      clear c1 c2 c3 d1 d2 d3
      generalize L[k] = d at c1' c2' c3' d1' d2' d3'
      obtain ⟨x, y, bb⟩ := d
      simp only at c1' c2' c3' d1' d2' d3'
      have hB1 : b < wr.heap.size := by omega
      have hB2 : b' < wr.heap.size := by omega
      go_wp2_with fail
      go_region_held3 (fun w' => w'.cell? ⟨b, off + k * 3, none⟩ = some (.int .i64 x) ∧ w'.cell? ⟨b, off + k * 3 + 1, none⟩ = some (.int .i64 y) ∧ w'.cell? ⟨b, off + k * 3 + 2, none⟩ = some (.bool bb) ∧ w'.cell? ⟨b', off' + k * 3, none⟩ = some (.int .i64 x) ∧ w'.cell? ⟨b', off' + k * 3 + 1, none⟩ = some (.int .i64 y) ∧ w'.cell? ⟨b', off' + k * 3 + 2, none⟩ = some (.bool bb))
        (first | go_keep | exact ⟨(hbx.cell (by simpa using hB1)).trans c1', (hbx.cell (by simpa using hB1)).trans c2', (hbx.cell (by simpa using hB1)).trans c3', (hbx.cell (by simpa using hB2)).trans d1', (hbx.cell (by simpa using hB2)).trans d2', (hbx.cell (by simpa using hB2)).trans d3'⟩)
        (first | (go_at_call 45; refine (eqDominoSame x y bb _).mono ?_; rintro e wx ⟨rfl, hbx⟩))
      have hb2 : Below w.heap.size w wx := hb.drew.trans (hbx.mono hbs)
      clear c1' c2' c3' d1' d2' d3' hbx
      go_wp2
      go_roundw
      case rel => exact ⟨k + 1, by omega, by go_num, hb2⟩
      case measure => (simp [intOf] <;> omega)
    · go_wp2
      go_ret
      exact mkBol rfl hb
end Go.Proofs.Ytieophdbhnpncaa.Til

/- Numbers are written into a slice of dominoes and read again. -/
namespace Go.Proofs.Ytieophdbhnpncaa.Til
set_option linter.unusedVariables false
set_option linter.unusedSimpArgs false
open Go.RowKit Go.Proofs.Ytieophdbhnpncaa.Base Go.Proofs.Ytieophdbhnpncaa.Pure Go.Proofs.Ytieophdbhnpncaa.Cell Go.Proofs.Ytieophdbhnpncaa.Dom Go.Proofs.Ytieophdbhnpncaa.Dms Go.Joins
open Go.Proofs.Ytieophdbhnpncaa.Reg hiding Yes add_none

/-- divisible by three. -/
def by3 (m : Nat) : Bool := decide (((m : Nat) : Int) % 3 = 0)
/-- the numbers from k on, three a domino. -/
def mkM (k j : Nat) : Dm := (((k + 3 * j : Nat) : Int), ((k + 3 * j + 1 : Nat) : Int), by3 (k + 3 * j + 2))
def marksM (k n : Nat) : List Dm := (List.range n).map (mkM k)
theorem marksM_length (k n : Nat) : (marksM k n).length = n := by unfold marksM; simp
theorem marksM_at (k n j : Nat) (h : j < n) : (marksM k n)[j]? = some (mkM k j) := by unfold marksM; simp [List.getElem?_range h]
theorem marksM_step (k j n : Nat) (L : List Dm) (hL : L.length = n) (hj : j < n) :
    (((rowM (marksM k j ++ L.drop j)).set (j * 3) (.int .i64 ((k + 3 * j : Nat) : Int))).set (j * 3 + 1) (.int .i64 ((k + 3 * j + 1 : Nat) : Int))).set (j * 3 + 2) (.bool (by3 (k + 3 * j + 2))) = rowM (marksM k (j + 1) ++ L.drop (j + 1)) := by
  rw [List.drop_eq_getElem_cons (by omega)]
  have h := rowM_put (marksM k j) L[j] (mkM k j) (L.drop (j + 1)) j (marksM_length k j)
  unfold mkM at h
  simp only at h
  rw [h]
  congr 1
  unfold marksM
  rw [List.range_succ, List.map_append, List.append_assoc]
  rfl

set_option maxRecDepth 100000 in
set_option maxHeartbeats 1000000 in
theorem markDoms (w : World) (base hi k n cap : Nat) (A : Option Addr) (L : List Dm) (hn : ((k + 3 * n : Nat) : Int) ≤ 10000000) (hr : RowIn w base hi 63 3 (.slice A n cap) n (rowM L)) :
    Calls Try.prog 18 #[.slice A n cap, .int .i64 (k : Int)] w fun e w' => e = .returned (.int .i64 ((k + 3 * n : Nat) : Int)) ∧ RowIn w' base hi 63 3 (.slice A n cap) n (rowM (marksM k n)) ∧ Apart base hi w w' := by
  have hx : L.length = n := by have := hr.1.1; rw [rowM_length] at this; omega
  have HX := Lib.hid hx
  have HN := Lib.hid hn
  have HH := Lib.hid hr.2
  have HO := Lib.hid hr.1
  clear hx hr hn
  go_enter Try.func18, Try.ntmps18
  go_wp2_with fail
  go_loopw [1, 5] (fun m i wr => ∃ j : Nat, j ≤ n ∧ i = .int .i64 j ∧ m = .int .i64 ((k + 3 * j : Nat) : Int) ∧ wr.ownsRow base 63 3 (.slice A n cap) n (rowM (marksM k j ++ L.drop j)) ∧ Apart base hi w wr) (fun _ i _ => n - (intOf i).toNat)
  case atStart => exact ⟨0, Nat.zero_le _, rfl, rfl, by simpa [marksM] using HO.out, Apart.refl _ _ _⟩
  case round =>
    obtain ⟨j, hj, rfl, rfl, hown, hb⟩ := hrel
    have hm : ((k + 3 * j : Nat) : Int) ≤ 10000000 := by have := HN.out; omega
    by_cases hlt : j < n
    · obtain ⟨g, c, hv, hg1, hg2⟩ := hown.form (by omega)
      injection hv with hA hn1 hc1
      subst hA
      subst hc1
      have hu : ∀ m, m < n * 3 → ∃ u, wr.cell? ⟨g, m, none⟩ = some u := fun m hm => by
        have hlen := hown.1
        rw [hown.cellAt m (by omega)]; exact ⟨_, List.getElem?_eq_getElem (by omega)⟩
      obtain ⟨u0, hu0⟩ := hu (j * 3) (by omega)
      obtain ⟨u1, hu1⟩ := hu (j * 3 + 1) (by omega)
      obtain ⟨u2, hu2⟩ := hu (j * 3 + 2) (by omega)
      have hf0 := hown.frozenAt (j * 3)
      have hf1 := hown.frozenAt (j * 3 + 1)
      have hf2 := hown.frozenAt (j * 3 + 2)
      obtain ⟨hst, _⟩ := hown.stored (j * 3) (.int .i64 ((k + 3 * j : Nat) : Int))
      obtain ⟨hst, _⟩ := hst.stored (j * 3 + 1) (.int .i64 ((k + 3 * j + 1 : Nat) : Int))
      obtain ⟨hst, _⟩ := hst.stored (j * 3 + 2) (.bool (by3 (k + 3 * j + 2)))
      rw [marksM_step k j n L HX.out hlt] at hst
      have hb3 := ((hb.setCell (p := ⟨g, j * 3, none⟩) hg1 (HH.out g rfl) (.int .i64 ((k + 3 * j : Nat) : Int))).setCell (p := ⟨g, j * 3 + 1, none⟩) hg1 (HH.out g rfl) (.int .i64 ((k + 3 * j + 1 : Nat) : Int))).setCell (p := ⟨g, j * 3 + 2, none⟩) hg1 (HH.out g rfl) (.bool (by3 (k + 3 * j + 2)))
      have hk2 : ((k + 3 * (j + 1) : Nat) : Int) = ((k + 3 * j : Nat) : Int) + 3 := by omega
      have e1 : ((k + 3 * j + 1 : Nat) : Int) = ((k + 3 * j : Nat) : Int) + 1 := by omega
      have e2 : by3 (k + 3 * j + 2) = ((((k + 3 * j : Nat) : Int) + 1 + 1) % 3 == 0) := by unfold by3; rw [Bool.eq_iff_iff]; simp only [decide_eq_true_eq, beq_iff_eq]; omega
      rw [e2, e1] at hst hb3
      have R := Lib.hid hst
      have HB := Lib.hid hb3
      have HK2 := Lib.hid hk2
      have hm0 : 0 ≤ ((k + 3 * j : Nat) : Int) := by omega
      have hnb : (n : Int) ≤ 10000000 := by have := HN.out; omega
      generalize ((k + 3 * j : Nat) : Int) = m at hm R HB HK2 hm0
      clear hown hst hb3 hb hu hk2 e1 e2
      go_wp2
      go_roundw
      case rel => exact ⟨j + 1, by omega, by go_num, by rw [HK2.out]; go_num, R.out, HB.out⟩
      case measure => (simp [intOf] <;> omega)
    · obtain rfl : j = n := by omega
      have R := Lib.hid (show wr.ownsRow base 63 3 (.slice A j cap) j (rowM (marksM k j)) by
        have e : marksM k j ++ L.drop j = marksM k j := by rw [List.drop_eq_nil_of_le (by rw [HX.out]; omega), List.append_nil]
        rw [e] at hown; exact hown)
      clear hown
      go_wp2
      go_ret
      exact ⟨by go_num, ⟨R.out, HH.out⟩, hb⟩
/-- the answer under a name. -/
theorem markDomsN (w : World) (base hi k n cap : Nat) (A : Option Addr) (L : List Dm) (k0 m : Int) (hk : k0 = (k : Int)) (hm : m = ((k + 3 * n : Nat) : Int)) (hn : m ≤ 10000000) (hr : RowIn w base hi 63 3 (.slice A n cap) n (rowM L)) :
    Calls Try.prog 18 #[.slice A n cap, .int .i64 k0] w fun e w' => e = .returned (.int .i64 m) ∧ RowIn w' base hi 63 3 (.slice A n cap) n (rowM (marksM k n)) ∧ Apart base hi w w' := by
  subst hm; subst hk
  exact markDoms w base hi k n cap A L hn hr
end Go.Proofs.Ytieophdbhnpncaa.Til
