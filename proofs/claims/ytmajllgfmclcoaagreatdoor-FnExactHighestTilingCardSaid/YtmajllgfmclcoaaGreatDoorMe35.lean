/- End, EdI in one text. -/
import Derived.Test.YtmajllgfmclcoaaGreatDoorMe34
import Derived.Test.YtmajllgfmclcoaaGreatDoorMe14
import Derived.Deep.DeepAppendRoom

namespace Go.Proofs.YtmajllgfmclcoaaGreatDoor.Cor
set_option linter.unusedVariables false
set_option linter.unusedSimpArgs false
set_option maxRecDepth 100000
open Go.RowKit Go.Proofs.YtmajllgfmclcoaaGreatDoor.Base Go.Proofs.YtmajllgfmclcoaaGreatDoor.Hgt Go.Joins
open Go.Proofs.YtmajllgfmclcoaaGreatDoor.Cels (rowC rowC_snoc rowC_length rowC_at)
open Go.Proofs.YtmajllgfmclcoaaGreatDoor.Reg (own_below own_base)

def EndP (L : List (Int × Int)) (w : World) (e : Ending) (w' : World) : Prop :=
  ∃ (A : Option Addr) (cap : Nat), e = .returned (.slice A L.length cap) ∧ w'.ownsRow w.heap.size 96 2 (.slice A L.length cap) L.length (rowC L) ∧ Below w.heap.size w w'
theorem corInfo : (Tryz.prog.info? 96).map (fun i => (i.zero, i.size, i.bytes)) = some (some (.agg #[.int .i64 0, .int .i64 0]), 2, 16) := by kernel_rfl
def endsT (x y : Int) (k : Nat) : List (Int × Int) := ((ends4 x y).take k).filter inC
theorem endsT_yes {x y u v : Int} {k : Nat} (h : (ends4 x y)[k]? = some (u, v)) (ho : inC (u, v) = true) : endsT x y (k + 1) = endsT x y k ++ [(u, v)] := by
  unfold endsT; rw [List.take_add_one, h, List.filter_append]; simp [ho]
theorem endsT_no {x y u v : Int} {k : Nat} (h : (ends4 x y)[k]? = some (u, v)) (ho : inC (u, v) = false) : endsT x y (k + 1) = endsT x y k := by
  unfold endsT; rw [List.take_add_one, h, List.filter_append]; simp [ho]
theorem endsT_le (x y : Int) (k : Nat) : (endsT x y k).length ≤ 4 := by
  unfold endsT
  exact Nat.le_trans (List.length_filter_le _ _) (by rw [List.length_take]; exact Nat.min_le_right _ _)
def arr4 (x y : Int) : Array Value := #[.int .i64 x, .int .i64 (y - 1), .int .i64 (x - 1), .int .i64 y, .int .i64 (x + 1), .int .i64 y, .int .i64 x, .int .i64 (y + 1)]
theorem arr_cells {W : World} {g : Nat} {x y : Int} (h : W.heap[g]? = some (.cells (arr4 x y) 134 (0, 0))) :
    W.cell? ⟨g, 0, none⟩ = some (.int .i64 x) ∧ W.cell? ⟨g, 1, none⟩ = some (.int .i64 (y - 1)) ∧ W.cell? ⟨g, 2, none⟩ = some (.int .i64 (x - 1)) ∧ W.cell? ⟨g, 3, none⟩ = some (.int .i64 y) ∧
    W.cell? ⟨g, 4, none⟩ = some (.int .i64 (x + 1)) ∧ W.cell? ⟨g, 5, none⟩ = some (.int .i64 y) ∧ W.cell? ⟨g, 6, none⟩ = some (.int .i64 x) ∧ W.cell? ⟨g, 7, none⟩ = some (.int .i64 (y + 1)) :=
  ⟨(cell_of_row _ _ 0 _ _ _ h).trans rfl, (cell_of_row _ _ 1 _ _ _ h).trans rfl, (cell_of_row _ _ 2 _ _ _ h).trans rfl, (cell_of_row _ _ 3 _ _ _ h).trans rfl,
   (cell_of_row _ _ 4 _ _ _ h).trans rfl, (cell_of_row _ _ 5 _ _ _ h).trans rfl, (cell_of_row _ _ 6 _ _ _ h).trans rfl, (cell_of_row _ _ 7 _ _ _ h).trans rfl⟩
theorem arr_at (x y : Int) {k : Nat} {u v : Int} (h : (ends4 x y)[k]? = some (u, v)) (w : World) : (Instr.index 134 (.agg #[.int .i64 x, .int .i64 (y - 1), .int .i64 (x - 1), .int .i64 y, .int .i64 (x + 1), .int .i64 y, .int .i64 x, .int .i64 (y + 1)]) (.int .i64 (k : Int))).run Tryz.prog w = .ok (.agg #[.int .i64 u, .int .i64 v]) w := by
  have a0 : ∀ a b c d e f g h : Int, (Instr.index 134 (.agg #[.int .i64 a, .int .i64 b, .int .i64 c, .int .i64 d, .int .i64 e, .int .i64 f, .int .i64 g, .int .i64 h]) (.int .i64 ((0 : Nat) : Int))).run Tryz.prog w = .ok (.agg #[.int .i64 a, .int .i64 b]) w := fun a b c d e f g h => by kernel_rfl
  have a1 : ∀ a b c d e f g h : Int, (Instr.index 134 (.agg #[.int .i64 a, .int .i64 b, .int .i64 c, .int .i64 d, .int .i64 e, .int .i64 f, .int .i64 g, .int .i64 h]) (.int .i64 ((1 : Nat) : Int))).run Tryz.prog w = .ok (.agg #[.int .i64 c, .int .i64 d]) w := fun a b c d e f g h => by kernel_rfl
  have a2 : ∀ a b c d e f g h : Int, (Instr.index 134 (.agg #[.int .i64 a, .int .i64 b, .int .i64 c, .int .i64 d, .int .i64 e, .int .i64 f, .int .i64 g, .int .i64 h]) (.int .i64 ((2 : Nat) : Int))).run Tryz.prog w = .ok (.agg #[.int .i64 e, .int .i64 f]) w := fun a b c d e f g h => by kernel_rfl
  have a3 : ∀ a b c d e f g h : Int, (Instr.index 134 (.agg #[.int .i64 a, .int .i64 b, .int .i64 c, .int .i64 d, .int .i64 e, .int .i64 f, .int .i64 g, .int .i64 h]) (.int .i64 ((3 : Nat) : Int))).run Tryz.prog w = .ok (.agg #[.int .i64 g, .int .i64 h]) w := fun a b c d e f g h => by kernel_rfl
  unfold ends4 at h
  rcases k with _ | _ | _ | _ | k
  · simp at h; obtain ⟨rfl, rfl⟩ := h; exact a0 _ _ _ _ _ _ _ _
  · simp at h; obtain ⟨rfl, rfl⟩ := h; exact a1 _ _ _ _ _ _ _ _
  · simp at h; obtain ⟨rfl, rfl⟩ := h; exact a2 _ _ _ _ _ _ _ _
  · simp at h; obtain ⟨rfl, rfl⟩ := h; exact a3 _ _ _ _ _ _ _ _
  · simp at h
theorem ends_at (x y : Int) {k : Nat} (h : k < 4) : ∃ u v, (ends4 x y)[k]? = some (u, v) := by
  have : k < (ends4 x y).length := h
  exact ⟨_, _, List.getElem?_eq_getElem this⟩
theorem arr_start (w : World) (x y : Int) (W : World) (e : W = (w.alloc (.cells #[.int .i64 x, .int .i64 y] 96)).alloc (.cells (arr4 x y) 134)) :
    Below w.heap.size w W ∧ W.heap[w.heap.size + 1]? = some (.cells (arr4 x y) 134 (0, 0)) := by
  subst e
  refine ⟨below_alloc2 w _ _, ?_⟩
  have k := heap_alloc_new (w.alloc (.cells #[.int .i64 x, .int .i64 y] 96)) (.cells (arr4 x y) 134)
  simpa using k
set_option maxHeartbeats 4000000 in
theorem iEnds (x y : Int) (h : 0 ≤ x ∧ x ≤ 8 ∧ 0 ≤ y ∧ y ≤ 8) (w : World) : Calls Tryz.prog 102 #[.agg #[.int .i64 x, .int .i64 y]] w (EndP (endsP x y) w) := by
  obtain ⟨i0, hi, hz0, hz1, hz2⟩ := info_parts corInfo
  have e1 : wrap64 (y - 1) = y - 1 := by unfold wrap64; omega
  have e2 : wrap64 (x - 1) = x - 1 := by unfold wrap64; omega
  have e3 : wrap64 (x + 1) = x + 1 := by unfold wrap64; omega
  have e4 : wrap64 (y + 1) = y + 1 := by unfold wrap64; omega
  clear h
  have HS := Lib.hid (arr_start w x y _ rfl)
  unfold arr4 at HS
  go_enter Tryz.func102, Tryz.ntmps102
  go_upto_region 2 with fail
  obtain ⟨hb1, hA⟩ := HS.out
  clear HS
  generalize (w.alloc _).alloc _ = W1 at hb1 hA ⊢
  have HA := Lib.hid (show W1.heap[w.heap.size + 1]? = some (.cells (arr4 x y) 134 (0, 0)) from hA)
  have hgs := (Array.getElem?_eq_some_iff.1 hA).1
  have hW1 : w.heap.size ≤ W1.heap.size := hb1.size
  clear hA e1 e2 e3 e4
  go_wp2_with (first
    | (at_make; refine wpList_make_own _ rfl _ _ 115 rfl w.heap.size 96 i0 (.agg #[.int .i64 0, .int .i64 0]) 2 Tryz.underlying115 hi hz0 hz1 .i64 .i64 4 4 rfl rfl (by omega) (by rw [hz2]; omega) (by unfold maxLen; omega) (by omega) ?_; intro w3 hown3 hg3; obtain ⟨q0, q1, q2, q3, q4, q5, q6, q7⟩ := arr_cells ((hg3.block (w.heap.size + 1) hgs (by simp)).trans HA.out)))
  have hb3 : Below w.heap.size w w3 := hb1.grown hg3 (by omega) (by simp)
  have HO := Lib.hid hown3
  clear q0 q1 q2 q3 q4 q5 q6 q7 hown3 hg3 HA hb1 hW1 hgs
  go_loopw [4, 34] (fun v i wr => ∃ k : Nat, k ≤ 4 ∧ i = .int .i64 k ∧ wr.ownsRow w.heap.size 96 2 v (endsT x y k).length (rowC (endsT x y k)) ∧ Below w.heap.size w wr) (fun _ i _ => 4 - (intOf i).toNat)
  case atStart => exact ⟨0, Nat.zero_le _, rfl, HO.out, hb3⟩
  case round =>
    clear HO hb3
    obtain ⟨k, hk, rfl, hown, hb⟩ := hrel
    have hbs := hb.size
    by_cases hlt : k < 4
    · obtain ⟨u, v', hq⟩ := ends_at x y hlt
      have hix := arr_at x y hq
      have HQ := Lib.hid hq
      have hkI : (k : Int) < 4 := by omega
      clear hq
      go_wp2_with fail
      refine (iInRange u v' _).mono ?_
      rintro e w2 ⟨rfl, hb2⟩
      clear hix
      have hbx := below_alloc1 wr (.cells #[.int .i64 u, .int .i64 v'] 96)
      have hE : Below wr.heap.size wr w2 := hbx.trans (hb2.mono (by simp))
      have hN := (AtC.new wr u v').on hb2
      have c0 := hN.c0
      have c1 := hN.c1
      have HD := Lib.hid (hb.trans (hE.mono hbs))
      have HOwn2 := Lib.hid (own_below hown hE (Nat.le_refl _))
      have hzz : wr.heap.size < w2.heap.size := hN.lt
      clear hE hb2 hown hb hbx hN
      cases hn : inC (u, v') with
      | false =>
        have HN := Lib.hid (endsT_no HQ.out hn)
        clear hn
        go_wp2
        go_roundw
        case rel => exact ⟨k + 1, by omega, by go_num, by rw [HN.out]; exact HOwn2.out, HD.out⟩
        case measure => (simp [intOf] <;> omega)
      | true =>
        have HN := Lib.hid (endsT_yes HQ.out hn)
        have HL := Lib.hid (endsT_le x y k)
        clear hn
        go_wp2_with (first
          | (at_builtin; refine wpList_append_own _ rfl _ _ 115 rfl w.heap.size 96 i0 (.agg #[.int .i64 0, .int .i64 0]) 2 16 Tryz.underlying115 hi hz0 hz1 hz2 rfl (by decide) _ (endsT x y k).length (rowC (endsT x y k)) rfl (HOwn2.out.alloc _) ⟨w2.heap.size, 0, none⟩ 1 1 [.int .i64 u, .int .i64 v'] rfl rfl (World.news_of_block (cs := #[.int .i64 u, .int .i64 v']) (t := 96) (fr := (0, 0)) (heap_alloc_new w2 _)) (by simp [Value.oneCell']) (by have := HL.out; unfold maxLen; omega) (by have := HL.out; omega) (by simp; omega) ?_; intro v2 w3 hown3 hgrow _))
        have hb3 : Below w.heap.size w w3 := (HD.out.alloc (by omega) _).grown hgrow (by simp; omega) (fun g hg => (HOwn2.out.lt g hg).1)
        have R := Lib.hid (show w3.ownsRow w.heap.size 96 2 v2 (endsT x y (k + 1)).length (rowC (endsT x y (k + 1))) by
          rw [HN.out, rowC_snoc, List.length_append]; exact hown3)
        clear hown3 hgrow
        go_wp2
        go_roundw
        case rel => exact ⟨k + 1, by omega, by go_num, R.out, hb3⟩
        case measure => (simp [intOf] <;> omega)
    · obtain rfl : k = 4 := by omega
      obtain ⟨A, cap, rfl⟩ := own_shape hown
      have HOwn := Lib.hid hown
      clear hown
      rw [show ((4 : Nat) : Int) = 4 from rfl]
      go_wp2
      go_ret
      exact ⟨A, cap, rfl, HOwn.out, hb⟩
end Go.Proofs.YtmajllgfmclcoaaGreatDoor.Cor

namespace Go.Proofs.YtmajllgfmclcoaaGreatDoor.Cor
set_option linter.unusedVariables false
set_option linter.unusedSimpArgs false
set_option maxRecDepth 100000
open Go.RowKit Go.Proofs.YtmajllgfmclcoaaGreatDoor.Cell Go.Proofs.YtmajllgfmclcoaaGreatDoor.Hgt Go.Joins
open Go.Proofs.YtmajllgfmclcoaaGreatDoor.Cels (rowC RowC rowC_own)

def Cb (w : World) (x y : Int) (W : World) : Prop := Below w.heap.size w W ∧ AtC W w.heap.size x y
theorem cb_start (x y : Int) (w : World) : Cb w x y (w.alloc (.cells #[.int .i64 x, .int .i64 y] 96)) := ⟨below_alloc1 w _, AtC.new w x y⟩
theorem Cb.on {w W W' : World} {x y : Int} (h : Cb w x y W) (hb : Below W.heap.size W W') : Cb w x y W' := ⟨h.1.trans (hb.mono h.1.size), h.2.on hb⟩
def HasC (L : List (Int × Int)) (c : Int × Int) (w : World) (e : Ending) (w' : World) : Prop := ∃ r : Int, e = .returned (.int .i64 r) ∧ decide (0 ≤ r) = decide (c ∈ L) ∧ Below w.heap.size w w'
theorem mkHasC {L : List (Int × Int)} {c : Int × Int} {w W : World} {r : Int} (h : decide (0 ≤ r) = decide (c ∈ L)) (hb : Below w.heap.size w W) : HasC L c w (.returned (.int .i64 r)) W := ⟨r, rfl, h, hb⟩
theorem takeC_no {L : List (Int × Int)} {c : Int × Int} {k : Nat} (hk : k < L.length) (h : c ∉ L.take k) (hne : L[k] ≠ c) : c ∉ L.take (k + 1) := by
 rw [List.take_succ_eq_append_getElem hk]
 intro q
 rcases List.mem_append.1 q with q | q
 ·exact h q
 ·exact hne (List.mem_singleton.1 q).symm
set_option maxHeartbeats 2000000 in
theorem iIndexC (w : World) (A : Option Addr) (n cap : Nat) (L : List (Int × Int)) (hL : L.length = n) (hn : n ≤ 1000) (h : RowC w A L) (x y : Int) :
  Calls Tryz.prog 150 #[.slice A n cap, .agg #[.int .i64 x, .int .i64 y]] w (HasC L (x, y) w) := by
 obtain ⟨b, off, hA, hc⟩ := h
 have HA := Lib.hid hA
 have HC := Lib.hid hc
 have HL := Lib.hid hL
 have T0 := Lib.hid (cb_start x y w)
 clear hA hc hL
 go_enter Tryz.func150, Tryz.ntmps150
 go_wp2_with fail
 go_loopw [5, 8] (fun _ i wr => ∃ k : Nat, k ≤ n ∧ i = .int .i64 k ∧ Cb w x y wr ∧ Hid ((x, y) ∉ L.take k)) (fun _ i _ => n - (intOf i).toNat)
 case atStart => exact ⟨0, Nat.zero_le _, rfl, T0.out, Lib.hid (by simp)⟩
 case round =>
  clear T0
  obtain ⟨k, hk, rfl, hK, HN⟩ := hrel
  by_cases hlt : k < n
  ·have hkL : k < L.length := by rw [HL.out]; exact hlt
   obtain ⟨rfl, hbB⟩ := HA.out (by omega)
   obtain ⟨e0, e1⟩ := HC.out k L[k] (List.getElem?_eq_getElem hkL)
   have d0 := (hK.1.cell (p := ⟨b, off + k * 2, none⟩) (by show b < _; omega)).trans e0
   have d1 := (hK.1.cell (p := ⟨b, off + k * 2 + 1, none⟩) (by show b < _; omega)).trans e1
   have c0 := AtC.c0 hK.2
   have c1 := AtC.c1 hK.2
   have HX := Lib.hid (fun hne => takeC_no hkL HN.out hne)
   have HIn := Lib.hid (fun (he : L[k] = (x, y)) => show (x, y) ∈ L from he ▸ List.getElem_mem hkL)
   generalize L[k] = p at d0 d1 HX HIn
   obtain ⟨u, v⟩ := p
   simp only at d0 d1
   have HK := Lib.hid hK
   clear e0 e1 HN hK
   by_cases q : u = x ∧ v = y
   ·obtain ⟨rfl, rfl⟩ := q
    have HI := Lib.hid (HIn.out rfl)
    clear HX HIn
    have huu : (u == u) = true := by simp
    have hvv : (v == v) = true := by simp
    go_wp2_with fail
    go_quiet (fail)
    go_wp2
    go_ret
    exact mkHasC (by rw [decide_eq_true HI.out]; exact decide_eq_true (by omega)) (drewBelow HK.out.1 _)
   ·have HY := Lib.hid (HX.out (fun e => by injection e with e1 e2; exact q ⟨e1, e2⟩))
    clear HX HIn
    by_cases q1 : u = x
    ·subst q1
     have huu : (u == u) = true := by simp
     have hvf : (y == v) = false := by rw [beq_eq_false_iff_ne]; exact fun e => q ⟨rfl, e.symm⟩
     clear q
     go_wp2_with fail
     go_quiet (fail)
     go_wp2
     go_roundw
     case rel => exact ⟨k + 1, by omega, by go_num, HK.out.on (drewBelow (Below.refl _ _) _), HY⟩
     case measure => (simp [intOf] <;> omega)
    ·have huf : (x == u) = false := by rw [beq_eq_false_iff_ne]; exact fun e => q1 e.symm
     clear q
     go_wp2_with fail
     go_quiet (fail)
     go_wp2
     go_roundw
     case rel => exact ⟨k + 1, by omega, by go_num, HK.out.on (drewBelow (Below.refl _ _) _), HY⟩
     case measure => (simp [intOf] <;> omega)
  ·obtain rfl : k = n := by omega
   have HF := Lib.hid (show (x, y) ∉ L from fun q => HN.out (by rw [← HL.out, List.take_length]; exact q))
   have HK := Lib.hid hK.1
   clear hK HN
   go_wp2
   go_ret
   exact mkHasC (by rw [decide_eq_false HF.out]; exact decide_eq_false (by omega)) HK.out
theorem iContainsC (w : World) (A : Option Addr) (n cap : Nat) (L : List (Int × Int)) (hL : L.length = n) (hn : n ≤ 1000) (h : RowC w A L) (x y : Int) :
  Calls Tryz.prog 140 #[.slice A n cap, .agg #[.int .i64 x, .int .i64 y]] w (Bol (decide ((x, y) ∈ L)) w) := by
 have T0 := Lib.hid (cb_start x y w)
 have HI := Lib.hid (fun W (hb : Below w.heap.size w W) => iIndexC W A n cap L hL hn (by
  obtain ⟨b, off, h1, h2⟩ := h
  refine ⟨b, off, fun hl => ⟨(h1 hl).1, Nat.lt_of_lt_of_le (h1 hl).2 hb.size⟩, fun j p hp => ?_⟩
  have hl : 0 < L.length := by have := (List.getElem?_eq_some_iff.1 hp).1; omega
  rw [hb.cell (p := ⟨b, off + j * 2, none⟩) (h1 hl).2, hb.cell (p := ⟨b, off + j * 2 + 1, none⟩) (h1 hl).2]
  exact h2 j p hp) x y)
 clear hL hn h
 go_enter Tryz.func140, Tryz.ntmps140
 go_wp2_with fail
 refine (HI.out _ T0.out.1).mono ?_
 rintro e w1 ⟨r, rfl, hr, hb1⟩
 have HB := Lib.hid (T0.out.on hb1).1
 have HR := Lib.hid hr
 clear HI T0 hb1 hr
 go_wp2
 go_ret
 exact mkBol (by rw [← HR.out]) HB.out
structure Tc (w : World) (a b c d : Int) (W : World) : Prop where
 bel : Below w.heap.size w W
 k1 : AtC W w.heap.size a b
 k2 : AtC W (w.heap.size + 1) c d
theorem tc_start (a b c d : Int) (w : World) : Tc w a b c d ((w.alloc (.cells #[.int .i64 a, .int .i64 b] 96)).alloc (.cells #[.int .i64 c, .int .i64 d] 96)) := by
 have h0 := AtC.new w a b
 have b0 := below_alloc1 w (.cells #[.int .i64 a, .int .i64 b] 96)
 have e0 : (w.alloc (.cells #[.int .i64 a, .int .i64 b] 96)).heap.size = w.heap.size + 1 := by simp
 generalize w.alloc (.cells #[.int .i64 a, .int .i64 b] 96) = W0 at h0 b0 e0 ⊢
 have h1 := AtC.new W0 c d
 have b1 := below_alloc1 W0 (.cells #[.int .i64 c, .int .i64 d] 96)
 rw [e0] at h1
 exact ⟨b0.trans (b1.mono (by omega)), h0.on b1, h1⟩
theorem Tc.drew {w W : World} {a b c d : Int} (h : Tc w a b c d W) : Tc w a b c d W.drew := ⟨h.bel.drew, h.k1, h.k2⟩
theorem Tc.on {w W W' : World} {a b c d : Int} (h : Tc w a b c d W) (hb : Below W.heap.size W W') : Tc w a b c d W' := ⟨h.bel.trans (hb.mono h.bel.size), h.k1.on hb, h.k2.on hb⟩
theorem step_in {ax ay bx by' : Int} (ha : 0 ≤ ax ∧ ax ≤ 8 ∧ 0 ≤ ay ∧ ay ≤ 8) (h : (bx, by') ∈ endsP ax ay) : (0 ≤ bx ∧ bx ≤ 8 ∧ 0 ≤ by' ∧ by' ≤ 8) ∧ (-1 ≤ clX ax ay bx by' ∧ clX ax ay bx by' ≤ 8 ∧ -1 ≤ clY ax ay bx by' ∧ clY ax ay bx by' ≤ 8) ∧ stepE ax ay bx by' = sgnE (clX ax ay bx by' + clY ax ay bx by') := by
 obtain ⟨hin, d, hd, e3, e4⟩ := ends_dir h
 simp only at hin e3 e4
 have h4 : d = 0 ∨ d = 1 ∨ d = 2 ∨ d = 3 := by omega
 rcases h4 with rfl | rfl | rfl | rfl
 ·have a : bx = ax + 1 := e3
  have b : by' = ay := by rw [e4]; show ay + 0 = ay; omega
  subst a b
  have c1 : clX ax by' (ax + 1) by' = ax := by unfold clX; rw [if_pos (by omega)]
  have c2 : clY ax by' (ax + 1) by' = by' - 1 := by unfold clY; rw [if_pos (by omega)]
  have s : stepE ax by' (ax + 1) by' = sgnE (ax + (by' - 1)) := by unfold stepE; rw [if_pos (by omega), if_pos ⟨rfl, rfl⟩]
  rw [c1, c2, s]
  exact ⟨by omega, by omega, rfl⟩
 ·have a : bx = ax := by rw [e3]; show ax + 0 = ax; omega
  have b : by' = ay + 1 := e4
  subst a b
  have c1 : clX bx ay bx (ay + 1) = bx := by unfold clX; rw [if_neg (by omega), if_neg (by omega), if_pos (by omega)]
  have c2 : clY bx ay bx (ay + 1) = ay := by unfold clY; rw [if_neg (by omega), if_neg (by omega), if_pos (by omega)]
  have s : stepE bx ay bx (ay + 1) = sgnE (bx + ay) := by unfold stepE; rw [if_pos (by omega), if_neg (by omega), if_neg (by omega), if_pos (by omega)]
  rw [c1, c2, s]
  exact ⟨by omega, by omega, rfl⟩
 ·have a : bx = ax - 1 := e3
  have b : by' = ay := by rw [e4]; show ay + 0 = ay; omega
  subst a b
  have c1 : clX ax by' (ax - 1) by' = ax - 1 := by unfold clX; rw [if_neg (by omega), if_pos (by omega)]
  have c2 : clY ax by' (ax - 1) by' = by' := by unfold clY; rw [if_neg (by omega), if_pos (by omega)]
  have s : stepE ax by' (ax - 1) by' = sgnE (ax - 1 + by') := by unfold stepE; rw [if_pos (by omega), if_neg (by omega), if_pos (by omega)]
  rw [c1, c2, s]
  exact ⟨by omega, by omega, rfl⟩
 ·have a : bx = ax := by rw [e3]; show ax + 0 = ax; omega
  have b : by' = ay - 1 := e4
  subst a b
  have c1 : clX bx ay bx (ay - 1) = bx - 1 := by unfold clX; rw [if_neg (by omega), if_neg (by omega), if_neg (by omega)]
  have c2 : clY bx ay bx (ay - 1) = ay - 1 := by unfold clY; rw [if_neg (by omega), if_neg (by omega), if_neg (by omega)]
  have s : stepE bx ay bx (ay - 1) = sgnE (bx - 1 + (ay - 1)) := by unfold stepE; rw [if_pos (by omega), if_neg (by omega), if_neg (by omega), if_neg (by omega), if_pos (by omega)]
  rw [c1, c2, s]
  exact ⟨by omega, by omega, rfl⟩
theorem step_no {ax ay bx by' : Int} (ha : 0 ≤ ax ∧ ax ≤ 8 ∧ 0 ≤ ay ∧ ay ≤ 8) (h : (bx, by') ∉ endsP ax ay) : stepE ax ay bx by' = 0 := by
 unfold stepE
 split
 ·rename_i hin
  have key : ¬ ((bx = ax ∧ by' = ay - 1) ∨ (bx = ax - 1 ∧ by' = ay) ∨ (bx = ax + 1 ∧ by' = ay) ∨ (bx = ax ∧ by' = ay + 1)) := fun q => h (by
   unfold endsP
   refine List.mem_filter.2 ⟨?_, inC_iff.2 (by simp only; omega)⟩
   unfold ends4
   simp only [List.mem_cons, List.not_mem_nil, or_false, Prod.mk.injEq]
   exact q)
  rw [if_neg (by omega), if_neg (by omega), if_neg (by omega), if_neg (by omega)]
 ·rfl
set_option maxHeartbeats 2000000 in
theorem iEdge (ax ay bx by' : Int) (w : World) :
  Calls Tryz.prog 120 #[.int .i64 ax, .int .i64 ay, .int .i64 bx, .int .i64 by'] w (Num (stepE ax ay bx by') w) := by
 have T0 := Lib.hid (tc_start ax ay bx by' w)
 have HIn := Lib.hid (fun W => iInRange ax ay W)
 by_cases hr : 0 ≤ ax ∧ ax ≤ 8 ∧ 0 ≤ ay ∧ ay ≤ 8
 rotate_left
 ·have hf : inC (ax, ay) = false := by rw [Bool.eq_false_iff]; intro q; have := inC_iff.1 q; simp only at this; omega
  have HE := Lib.hid (step_out (ax := ax) (ay := ay) (bx := bx) (by' := by') (by omega))
  rw [hf] at HIn
  clear hr hf
  go_enter Tryz.func120, Tryz.ntmps120
  go_upto_region 2 with fail
  have T1 := T0.out.drew
  clear T0
  refine wp_region_noPanic ?_
  refine wp_region_held_drew (S := (fun w' => w'.cell? ⟨w.heap.size, 0, none⟩ = some (.int .i64 ax) ∧ w'.cell? ⟨w.heap.size, 1, none⟩ = some (.int .i64 ay))) (by kernel_rfl) (⟨T1.k1.c0, T1.k1.c1⟩) (fun hHeld => ?_)
  generalize World.drew _ = WR at T1 hHeld ⊢
  refine wpAnyH_take (i := 0) (v := ?_) rfl (by kernel_rfl) (by kernel_rfl) (by kernel_rfl) (fun _ _ _ h => h) (Or.inl ⟨by rfl, ?_⟩) (by assumption) ?_
  rotate_left
  ·(intro w' hS; (try dsimp only at hS); go_simp; try with_reducible rfl)
  try simp only [Act.put, List.getElem_toArray, List.getElem_cons_succ, List.getElem_cons_zero, List.setIfInBounds_toArray, List.set_cons_zero, List.set_cons_succ]
  refine wpAnyH_ready (rs := [1]) (by kernel_rfl) (by simp) ?_
  refine AllReadyH.cons rfl (fun K hK => ?_) AllReadyH.nil
  go_simp
  refine (HIn.out _).mono ?_
  rintro e wx ⟨rfl, hbx⟩
  have T1 := T1.on hbx
  clear hbx
  go_wp2_with fail
  refine hK.out _ _ (⟨T1.k1.c0, T1.k1.c1⟩) (fun hHeld => ?_)
  clear hK K
  try simp only [Act.put, List.getElem_toArray, List.getElem_cons_succ, List.getElem_cons_zero, List.setIfInBounds_toArray, List.set_cons_zero, List.set_cons_succ]
  refine wpAnyH_take (i := 2) (v := ?_) rfl (by kernel_rfl) (by kernel_rfl) (by kernel_rfl) (fun _ _ _ h => h) (Or.inl ⟨by rfl, ?_⟩) (by assumption) ?_
  rotate_left
  ·(intro w' hS; (try dsimp only at hS); go_simp; try with_reducible rfl)
  try simp only [Act.put, List.getElem_toArray, List.getElem_cons_succ, List.getElem_cons_zero, List.setIfInBounds_toArray, List.set_cons_zero, List.set_cons_succ]
  refine wpAnyH_take (i := 3) (v := ?_) rfl (by kernel_rfl) (by kernel_rfl) (by kernel_rfl) (fun _ _ _ h => h) (Or.inl ⟨by rfl, ?_⟩) (by assumption) ?_
  rotate_left
  ·(intro w' hS; (try dsimp only at hS); go_simp; try with_reducible rfl)
  try simp only [Act.put, List.getElem_toArray, List.getElem_cons_succ, List.getElem_cons_zero, List.setIfInBounds_toArray, List.set_cons_zero, List.set_cons_succ]
  refine wpAnyH_take (i := 4) (v := undef) rfl (by kernel_rfl) (by kernel_rfl) (by kernel_rfl) (fun _ _ _ h => h) (Or.inr ⟨by rfl, rfl⟩) (by assumption) ?_
  try simp only [Act.put, List.getElem_toArray, List.getElem_cons_succ, List.getElem_cons_zero, List.setIfInBounds_toArray, List.set_cons_zero, List.set_cons_succ]
  refine wpAnyH_take (i := 5) (v := undef) rfl (by kernel_rfl) (by kernel_rfl) (by kernel_rfl) (fun _ _ _ h => h) (Or.inr ⟨by rfl, rfl⟩) (by assumption) ?_
  try simp only [Act.put, List.getElem_toArray, List.getElem_cons_succ, List.getElem_cons_zero, List.setIfInBounds_toArray, List.set_cons_zero, List.set_cons_succ]
  refine wpAnyH_take (i := 6) (v := undef) rfl (by kernel_rfl) (by kernel_rfl) (by kernel_rfl) (fun _ _ _ h => h) (Or.inr ⟨by rfl, rfl⟩) (by assumption) ?_
  try simp only [Act.put, List.getElem_toArray, List.getElem_cons_succ, List.getElem_cons_zero, List.setIfInBounds_toArray, List.set_cons_zero, List.set_cons_succ]
  refine wpAnyH_take (i := 7) (v := undef) rfl (by kernel_rfl) (by kernel_rfl) (by kernel_rfl) (fun _ _ _ h => h) (Or.inr ⟨by rfl, rfl⟩) (by assumption) ?_
  try simp only [Act.put, List.getElem_toArray, List.getElem_cons_succ, List.getElem_cons_zero, List.setIfInBounds_toArray, List.set_cons_zero, List.set_cons_succ]
  refine wpAnyH_take (i := 8) (v := undef) rfl (by kernel_rfl) (by kernel_rfl) (by kernel_rfl) (fun _ _ _ h => h) (Or.inr ⟨by rfl, rfl⟩) (by assumption) ?_
  try simp only [Act.put, List.getElem_toArray, List.getElem_cons_succ, List.getElem_cons_zero, List.setIfInBounds_toArray, List.set_cons_zero, List.set_cons_succ]
  refine wpAnyH_take (i := 9) (v := ?_) rfl (by kernel_rfl) (by kernel_rfl) (by kernel_rfl) (fun _ _ _ h => h) (Or.inl ⟨by rfl, ?_⟩) (by assumption) ?_
  rotate_left
  ·(intro w' hS; (try dsimp only at hS); go_simp; try with_reducible rfl)
  try simp only [Act.put, List.getElem_toArray, List.getElem_cons_succ, List.getElem_cons_zero, List.setIfInBounds_toArray, List.set_cons_zero, List.set_cons_succ]
  refine wpAnyH_done (by kernel_rfl) ?_ _
  refine NoPanic.normal ?_
  clear hHeld
  go_wp2
  go_ret
  exact ⟨by rw [HE.out]; rfl, T1.bel⟩
 ·have hf : inC (ax, ay) = true := inC_iff.2 (by simp only; omega)
  have HEn := Lib.hid (fun W => iEnds ax ay hr W)
  have HIns := Lib.hid (fun h => step_in (bx := bx) (by' := by') hr h)
  have HNo := Lib.hid (fun h => step_no (bx := bx) (by' := by') hr h)
  have HLe := Lib.hid (fun (hb : 0 ≤ bx ∧ bx ≤ 8 ∧ 0 ≤ by' ∧ by' ≤ 8) W => iLeft ax ay bx by' hr hb W)
  have HLn := Lib.hid (ends_le ax ay)
  rw [hf] at HIn
  clear hr hf
  go_enter Tryz.func120, Tryz.ntmps120
  go_upto_region 2 with fail
  have T1 := T0.out.drew
  clear T0
  refine wp_region_noPanic ?_
  refine wp_region_held_drew (S := (fun w' => w'.cell? ⟨w.heap.size, 0, none⟩ = some (.int .i64 ax) ∧ w'.cell? ⟨w.heap.size, 1, none⟩ = some (.int .i64 ay) ∧ w'.cell? ⟨w.heap.size + 1, 0, none⟩ = some (.int .i64 bx) ∧ w'.cell? ⟨w.heap.size + 1, 1, none⟩ = some (.int .i64 by'))) (by kernel_rfl) (⟨T1.k1.c0, T1.k1.c1, T1.k2.c0, T1.k2.c1⟩) (fun hHeld => ?_)
  generalize World.drew _ = WR at T1 hHeld ⊢
  refine wpAnyH_take (i := 0) (v := ?_) rfl (by kernel_rfl) (by kernel_rfl) (by kernel_rfl) (fun _ _ _ h => h) (Or.inl ⟨by rfl, ?_⟩) (by assumption) ?_
  rotate_left
  ·(intro w' hS; (try dsimp only at hS); go_simp; try with_reducible rfl)
  try simp only [Act.put, List.getElem_toArray, List.getElem_cons_succ, List.getElem_cons_zero, List.setIfInBounds_toArray, List.set_cons_zero, List.set_cons_succ]
  refine wpAnyH_ready (rs := [1]) (by kernel_rfl) (by simp) ?_
  refine AllReadyH.cons rfl (fun K hK => ?_) AllReadyH.nil
  go_simp
  refine (HIn.out _).mono ?_
  rintro e wx ⟨rfl, hbx⟩
  have T1 := T1.on hbx
  clear hbx
  go_wp2_with fail
  refine hK.out _ _ (⟨T1.k1.c0, T1.k1.c1, T1.k2.c0, T1.k2.c1⟩) (fun hHeld => ?_)
  clear hK K
  try simp only [Act.put, List.getElem_toArray, List.getElem_cons_succ, List.getElem_cons_zero, List.setIfInBounds_toArray, List.set_cons_zero, List.set_cons_succ]
  refine wpAnyH_take (i := 2) (v := ?_) rfl (by kernel_rfl) (by kernel_rfl) (by kernel_rfl) (fun _ _ _ h => h) (Or.inl ⟨by rfl, ?_⟩) (by assumption) ?_
  rotate_left
  ·(intro w' hS; (try dsimp only at hS); go_simp; try with_reducible rfl)
  try simp only [Act.put, List.getElem_toArray, List.getElem_cons_succ, List.getElem_cons_zero, List.setIfInBounds_toArray, List.set_cons_zero, List.set_cons_succ]
  refine wpAnyH_take (i := 3) (v := ?_) rfl (by kernel_rfl) (by kernel_rfl) (by kernel_rfl) (fun _ _ _ h => h) (Or.inl ⟨by rfl, ?_⟩) (by assumption) ?_
  rotate_left
  ·(intro w' hS; (try dsimp only at hS); go_simp; try with_reducible rfl)
  try simp only [Act.put, List.getElem_toArray, List.getElem_cons_succ, List.getElem_cons_zero, List.setIfInBounds_toArray, List.set_cons_zero, List.set_cons_succ]
  refine wpAnyH_take (i := 4) (v := ?_) rfl (by kernel_rfl) (by kernel_rfl) (by kernel_rfl) (fun _ _ _ h => h) (Or.inl ⟨by rfl, ?_⟩) (by assumption) ?_
  rotate_left
  ·(intro w' hS; (try dsimp only at hS); go_simp; try with_reducible rfl)
  try simp only [Act.put, List.getElem_toArray, List.getElem_cons_succ, List.getElem_cons_zero, List.setIfInBounds_toArray, List.set_cons_zero, List.set_cons_succ]
  refine wpAnyH_take (i := 6) (v := ?_) rfl (by kernel_rfl) (by kernel_rfl) (by kernel_rfl) (fun _ _ _ h => h) (Or.inl ⟨by rfl, ?_⟩) (by assumption) ?_
  rotate_left
  ·(intro w' hS; (try dsimp only at hS); go_simp; try with_reducible rfl)
  try simp only [Act.put, List.getElem_toArray, List.getElem_cons_succ, List.getElem_cons_zero, List.setIfInBounds_toArray, List.set_cons_zero, List.set_cons_succ]
  refine wpAnyH_ready (rs := [5]) (by kernel_rfl) (by simp) ?_
  refine AllReadyH.cons rfl (fun K hK => ?_) AllReadyH.nil
  go_simp
  refine (HEn.out _).mono ?_
  rintro e wx ⟨A2, cap2, rfl, hown, hbx⟩
  have T1 := T1.on hbx
  have hct := iContainsC wx A2 (endsP ax ay).length cap2 (endsP ax ay) rfl (by have := HLn.out; omega) (rowC_own hown) bx by'
  have HCt := Lib.hid hct
  generalize hm : (endsP ax ay).length = m at HCt ⊢
  clear hbx hown hct
  go_wp2_with fail
  refine hK.out _ _ (⟨T1.k1.c0, T1.k1.c1, T1.k2.c0, T1.k2.c1⟩) (fun hHeld => ?_)
  clear hK K
  try simp only [Act.put, List.getElem_toArray, List.getElem_cons_succ, List.getElem_cons_zero, List.setIfInBounds_toArray, List.set_cons_zero, List.set_cons_succ]
  refine wpAnyH_ready (rs := [7]) (by kernel_rfl) (by simp) ?_
  refine AllReadyH.cons rfl (fun K hK => ?_) AllReadyH.nil
  go_simp
  refine (HCt.out).mono ?_
  rintro e wx ⟨rfl, hbx⟩
  have T1 := T1.on hbx
  clear hbx
  go_wp2_with fail
  refine hK.out _ _ (⟨T1.k1.c0, T1.k1.c1, T1.k2.c0, T1.k2.c1⟩) (fun hHeld => ?_)
  clear hK K
  try simp only [Act.put, List.getElem_toArray, List.getElem_cons_succ, List.getElem_cons_zero, List.setIfInBounds_toArray, List.set_cons_zero, List.set_cons_succ]
  refine wpAnyH_take (i := 8) (v := ?_) rfl (by kernel_rfl) (by kernel_rfl) (by kernel_rfl) (fun _ _ _ h => h) (Or.inl ⟨by rfl, ?_⟩) (by assumption) ?_
  rotate_left
  ·(intro w' hS; (try dsimp only at hS); go_simp; try with_reducible rfl)
  try simp only [Act.put, List.getElem_toArray, List.getElem_cons_succ, List.getElem_cons_zero, List.setIfInBounds_toArray, List.set_cons_zero, List.set_cons_succ]
  refine wpAnyH_take (i := 9) (v := ?_) rfl (by kernel_rfl) (by kernel_rfl) (by kernel_rfl) (fun _ _ _ h => h) (Or.inl ⟨by rfl, ?_⟩) (by assumption) ?_
  rotate_left
  ·(intro w' hS; (try dsimp only at hS); go_simp; try with_reducible rfl)
  try simp only [Act.put, List.getElem_toArray, List.getElem_cons_succ, List.getElem_cons_zero, List.setIfInBounds_toArray, List.set_cons_zero, List.set_cons_succ]
  refine wpAnyH_done (by kernel_rfl) ?_ _
  refine NoPanic.normal ?_
  clear hHeld HCt
  by_cases hin : (bx, by') ∈ endsP ax ay
  ·obtain ⟨hb, hc, hs⟩ := HIns.out hin
   have HL := Lib.hid (fun W => HLe.out hb W)
   rw [decide_eq_true hin]
   have HSt := Lib.hid hs
   have c0 := T1.k1.c0
   have c1 := T1.k1.c1
   have c2 := T1.k2.c0
   have c3 := T1.k2.c1
   clear HIns HNo HLe hm HLn hs hb hin HEn HIn
   generalize clX ax ay bx by' = m' at HL hc HSt
   generalize clY ax ay bx by' = n' at HL hc HSt
   have e1 : wrap64 (m' + n') = m' + n' := by unfold wrap64; omega
   have HT := Lib.hid (show (m' + n').tmod 2 = 0 ↔ (m' + n') % 2 = 0 by
    by_cases h : 0 ≤ m' + n'
    ·rw [Int.tmod_eq_emod_of_nonneg h]
    ·have : m' + n' = -1 ∨ m' + n' = -2 := by omega
     rcases this with e | e <;> rw [e] <;> decide)
   clear hc
   go_wp2_with fail
   refine (HL.out _).mono ?_
   rintro e w2 ⟨rfl, hb2⟩
   have T2 := T1.on hb2
   have hbx := below_alloc1 w2 (.cells #[.int .i64 m', .int .i64 n'] 79)
   have HB3 := Lib.hid (T2.on hbx).bel
   clear T1 T2 hb2 hbx c0 c1 c2 c3 HL
   by_cases hev : (m' + n').tmod 2 = 0
   ·have hev2 : ((m' + n').tmod 2 == 0) = true := by simpa using hev
    have HS := Lib.hid (show stepE ax ay bx by' = 1 by rw [HSt.out]; unfold sgnE; rw [if_pos (HT.out.1 hev)])
    clear hev
    go_wp2
    go_ret
    exact ⟨by rw [HS.out]; rfl, HB3.out⟩
   ·have hev2 : ((m' + n').tmod 2 == 0) = false := by simpa using hev
    have HS := Lib.hid (show stepE ax ay bx by' = -1 by rw [HSt.out]; unfold sgnE; rw [if_neg (fun q => hev (HT.out.2 q))])
    clear hev
    go_wp2
    go_ret
    exact ⟨by rw [HS.out]; rfl, HB3.out⟩
  ·have HE := Lib.hid (HNo.out hin)
   rw [decide_eq_false hin]
   clear HIns HNo HLe hin
   go_wp2
   go_ret
   exact ⟨by rw [HE.out]; rfl, T1.bel⟩
end Go.Proofs.YtmajllgfmclcoaaGreatDoor.Cor
