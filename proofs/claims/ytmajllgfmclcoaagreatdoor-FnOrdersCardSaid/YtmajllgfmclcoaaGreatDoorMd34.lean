/- Div in one text. -/
import Derived.Test.YtmajllgfmclcoaaGreatDoorMd20
import Derived.Test.YtmajllgfmclcoaaGreatDoorMd28
import Derived.Test.YtmajllgfmclcoaaGreatDoorMd21
import Derived.Test.YtmajllgfmclcoaaGreatDoorMd09
import Derived.Deep.LoopGhost
import Derived.Deep.CutRange
set_option linter.unusedVariables false
set_option linter.unusedSimpArgs false
set_option maxRecDepth 100000
namespace Go.Proofs.YtmajllgfmclcoaaGreatDoor.Cor
open Go.RowKit Base Go.Proofs.YtmajllgfmclcoaaGreatDoor.Pure Go.Proofs.YtmajllgfmclcoaaGreatDoor.Cell Dom Dms Til Hgt Go.Joins
open Cels (rowC RowC rowC_own rowC_at)
open Reg (ints RowB RowIn rowIn_new iHasCell own_below own_base)
theorem cl_pair {x y : Int} {c : Int × Int} (hc : c ∈ endsP x y) :
  (clX x y c.1 c.2 = sdX x y c.1 c.2 ∧ clY x y c.1 c.2 = sdY x y c.1 c.2 ∧ clX c.1 c.2 x y = loE x c.1 ∧ clY c.1 c.2 x y = loE y c.2) ∨
  (clX x y c.1 c.2 = loE x c.1 ∧ clY x y c.1 c.2 = loE y c.2 ∧ clX c.1 c.2 x y = sdX x y c.1 c.2 ∧ clY c.1 c.2 x y = sdY x y c.1 c.2) := by
 obtain ⟨hin, d, hd, e3, e4⟩ := ends_dir hc
 have h4 : d = 0 ∨ d = 1 ∨ d = 2 ∨ d = 3 := by omega
 obtain ⟨u, v⟩ := c
 simp only at e3 e4 hin ⊢
 rcases h4 with rfl | rfl | rfl | rfl
 ·obtain rfl : u = x + 1 := e3
  obtain rfl : v = y := by rw [e4]; show y + 0 = y; omega
  left
  unfold clX clY sdX sdY loE
  refine ⟨?_, ?_, ?_, ?_⟩ <;> (repeat' split) <;> omega
 ·obtain rfl : u = x := by rw [e3]; show x + 0 = x; omega
  obtain rfl : v = y + 1 := e4
  right
  unfold clX clY sdX sdY loE
  refine ⟨?_, ?_, ?_, ?_⟩ <;> (repeat' split) <;> omega
 ·obtain rfl : u = x - 1 := e3
  obtain rfl : v = y := by rw [e4]; show y + 0 = y; omega
  right
  unfold clX clY sdX sdY loE
  refine ⟨?_, ?_, ?_, ?_⟩ <;> (repeat' split) <;> omega
 ·obtain rfl : u = x := by rw [e3]; show x + 0 = x; omega
  obtain rfl : v = y - 1 := e4
  left
  unfold clX clY sdX sdY loE
  refine ⟨?_, ?_, ?_, ?_⟩ <;> (repeat' split) <;> omega
theorem mn_comm (a b : Int) : mn a b = mn b a := by unfold mn; split <;> split <;> omega
theorem sd_mn' (ax ay bx by' : Int) : mn (sdX ax ay bx by') (loE ax bx) = sdX ax ay bx by' ∧ mn (sdY ax ay bx by') (loE ay by') = sdY ax ay bx by' ∧ decide (sdX ax ay bx by' = loE ax bx) = decide (ay = by') := by
 unfold mn sdX sdY
 by_cases q : ay = by'
 ·rw [if_pos q, if_pos q]
  exact ⟨by rw [if_neg (by omega)], by rw [if_neg (by omega)], by rw [decide_eq_true q]; simp⟩
 ·rw [if_neg q, if_neg q]
  exact ⟨by rw [if_neg (by omega)], by rw [if_neg (by omega)], by rw [decide_eq_false q]; exact decide_eq_false (by omega)⟩
theorem lr_dom {xs hs : List Int} {x y : Int} {c : Int × Int} (hc : c ∈ endsP x y) {u v : Int} (hu : hs[pl9 (x, y)]? = some u) (hv : hs[pl9 c]? = some v) {p1 p2 : Bool} (h1 : hasB xs (clX x y c.1 c.2) (clY x y c.1 c.2) = p1) (h2 : hasB xs (clX c.1 c.2 x y) (clY c.1 c.2 x y) = p2) :
  (upG xs hs x y c.1 c.2 ↔ (p1 && (p2 && (wrap64 (v - u) == 3))) = true) ∧
  (upG xs hs x y c.1 c.2 → nbB (clX x y c.1 c.2) (clY x y c.1 c.2) (clX c.1 c.2 x y) (clY c.1 c.2 x y) = true ∧ (mn (clX x y c.1 c.2) (clX c.1 c.2 x y), mn (clY x y c.1 c.2) (clY c.1 c.2 x y), decide (clX x y c.1 c.2 = clX c.1 c.2 x y)) = sdM x y c.1 c.2) := by
 obtain ⟨m1, m2, m3⟩ := sd_mn' x y c.1 c.2
 have hgap : (∃ u' v' : Int, hs[pl9 (x, y)]? = some u' ∧ hs[pl9 (c.1, c.2)]? = some v' ∧ wrap64 (v' - u') = 3) ↔ wrap64 (v - u) = 3 := by
  constructor
  ·rintro ⟨u', v', a, b, e⟩
   rw [hu] at a
   have b' : hs[pl9 c]? = some v' := b
   rw [hv] at b'
   injection a with a
   injection b' with b'
   rw [a, b']; exact e
  ·exact fun e => ⟨u, v, hu, hv, e⟩
 rcases cl_pair hc with ⟨e1, e2, e3, e4⟩ | ⟨e1, e2, e3, e4⟩
 ·rw [e1, e2] at h1
  rw [e3, e4] at h2
  rw [e1, e2, e3, e4]
  constructor
  ·unfold upG
   rw [h1, h2, hgap, Bool.and_eq_true, Bool.and_eq_true, beq_iff_eq]
  ·rintro ⟨a, b, _⟩
   refine ⟨(up_dom a b).2.2.2, ?_⟩
   rw [m1, m2, m3]; rfl
 ·rw [e1, e2] at h1
  rw [e3, e4] at h2
  rw [e1, e2, e3, e4]
  constructor
  ·unfold upG
   rw [h1, h2, hgap, Bool.and_eq_true, Bool.and_eq_true, beq_iff_eq]
   exact ⟨fun ⟨a, b, d⟩ => ⟨b, a, d⟩, fun ⟨a, b, d⟩ => ⟨b, a, d⟩⟩
  ·rintro ⟨a, b, _⟩
   have k := (up_dom a b).2.2.2
   refine ⟨?_, ?_⟩
   ·rw [nbB_iff] at k ⊢
    obtain ⟨k1, k2, k3⟩ := k
    exact ⟨k2, k1, by omega⟩
   ·rw [mn_comm, m1, mn_comm, m2]
    have : decide (loE x c.1 = sdX x y c.1 c.2) = decide (y = c.2) := by rw [← m3, decide_eq_decide]; exact eq_comm
    rw [this]; rfl
theorem walk_ok {xs hs : List Int} {v k : Nat} {e : Dm} (h : walkG xs hs v k e) : okM e = true := by
 obtain ⟨u, c, _, hc, ⟨h1, h2, _⟩, rfl⟩ := h
 exact (up_dom h1 h2).1
theorem ok_fits {L : List Dm} (h : ∀ e ∈ L, okM e = true) : Fits L := fun d hd => by
 obtain ⟨a, b, c⟩ := d
 have o := okM_in (h _ hd)
 simp only at o
 exact ⟨by unfold Sm; simp only; omega, by unfold Sm; simp only; omega⟩
theorem row_type {W : World} {base e size n : Nat} {v : Value} {xs : List Value} {g : Nat} (h : W.ownsRow base e size v n xs) (hg : v.ownBlock = some g) : ∃ cs, W.heap[g]? = some (.cells cs e (0, 0)) := by
 rcases h.2 with ⟨rfl, _⟩ | ⟨g', cap', cur, rfl, _, hgg, _⟩
 ·cases hg
 ·have e2 : some g' = some g := hg
  injection e2 with e2
  subst e2
  exact ⟨cur, hgg⟩
theorem rows_apart {W : World} {base base' e e' size size' n n' : Nat} {v v' : Value} {xs xs' : List Value} (h : W.ownsRow base e size v n xs) (h' : W.ownsRow base' e' size' v' n' xs') (hne : e ≠ e') : v.ownBlock = none ∨ v.ownBlock ≠ v'.ownBlock := by
 cases hv : v.ownBlock with
 | none => exact .inl rfl
 | some g =>
  right
  intro q
  obtain ⟨cs, c1⟩ := row_type h hv
  obtain ⟨cs', c2⟩ := row_type h' q.symm
  rw [c1] at c2
  injection c2 with c2
  injection c2 with _ c2
  exact hne c2
theorem AtC.kept {W W' : World} {q : Nat} {x y : Int} {base e size n : Nat} {v : Value} {xs : List Value} (k : AtC W q x y) (h : W.ownsRow base e size v n xs) (hne : e ≠ 96) (hg : W.grownBy W' v.ownBlock) : AtC W' q x y := by
 obtain ⟨_, _, _, _, h5⟩ := hg
 refine (h5 q k.lt (fun e' => ?_)).trans k
 obtain ⟨cs, c1⟩ := row_type h e'.symm
 have k' := k
 unfold AtC at k'
 rw [c1] at k'
 injection k' with k'
 injection k' with _ k'
 exact hne k'
structure Dv (w : World) (v : Value) (D : List Dm) (A : Option Addr) (c : Nat) (W : World) : Prop where
 r1 : R1 w v W
 own : W.ownsRow (w.heap.size + 1) 63 3 (.slice A D.length c) D.length (rowM D)
section
variable {w W W' : World} {v : Value} {D : List Dm} {A : Option Addr} {c : Nat}
theorem Dv.on (s : Dv w v D A c W) (hb : Below W.heap.size W W') : Dv w v D A c W' := ⟨s.r1.on hb, own_below s.own hb NR⟩
theorem Dv.drew (s : Dv w v D A c W) : Dv w v D A c W.drew := ⟨s.r1.drew, s.own⟩
theorem Dv.grow {w6 : World} {A6 : Option Addr} {c6 : Nat} {e : Dm} {n : Nat} {o : Obj} (s : Dv w v D A c W) (hn : D.length = n)
  (ho : w6.ownsRow (w.heap.size + 1) 63 3 (.slice A6 (n + 1) c6) (n + 1) (rowM D ++ [.int .i64 e.1, .int .i64 e.2.1, .bool e.2.2])) (hg : (W.alloc o).grownBy w6 (Value.slice A n c).ownBlock) : Dv w v (D ++ [e]) A6 c6 w6 := by
 subst hn
 have hbx := below_alloc1 W o
 have s2 := s.on hbx
 refine ⟨⟨s2.r1.1.grown hg s2.r1.1.size (fun g e' => by have := (s.own.lt g e').1; omega), ?_⟩, ?_⟩
 ·obtain ⟨_, _, _, _, h5⟩ := hg
  exact (h5 w.heap.size (Array.getElem?_eq_some_iff.1 s2.r1.2).1 (fun e' => by have := (s.own.lt _ e'.symm).1; omega)).trans s2.r1.2
 ·rw [List.length_append, rowM_snoc]
  exact ho
end
set_option maxHeartbeats 8000000 in
theorem iDivided (w : World) (A : Option Addr) (cap B : Nat) (hs : List Int) (h81 : hs.length = 81) (h : RowB w B A hs) (hB : B ≤ w.heap.size)
  (A' : Option Addr) (n' cap' B' : Nat) (xs : List Int) (hx : xs.length = n') (hn' : (n' : Int) ≤ 9223372036854775807) (h' : RowB w B' A' xs) (hB' : B' ≤ w.heap.size)
  (iSort : ∀ (W : World) (A1 : Option Addr) (n c : Nat) (L : List Dm), L.length = n → (n : Int) ≤ 1048576 → Fits L → RowM W W.heap.size A1 L → Calls Tryz.prog 106 #[.slice A1 n c] W (DmPost (sortM L) (sortM L).length W)) :
  Calls Tryz.prog 74 #[.slice A 81 cap, .agg #[.slice A' n' cap']] w fun e w' => ∃ C, (∀ e, okM e = true → (e ∈ C ↔ tellG xs hs e)) ∧ C.length ≤ 1000 ∧ DmPost (sortM C) (sortM C).length w e w' := by
 obtain ⟨i0, hi, hz0, hz1, hz2⟩ := info_parts domInfo
 obtain ⟨b0, off, hA, hcell⟩ := h
 obtain ⟨rfl, hbB⟩ := hA (by omega)
 have HHs := Lh (fun (W : World) (hb : Below w.heap.size w W) (j : Nat) (u : Int) (hj : hs[j]? = some u) => (hb.cell (p := ⟨b0, off + j, none⟩) (by show b0 < _; omega)).trans (hcell j u hj))
 have HCl := Lh (fun W (hb : Below w.heap.size w W) x y => iHasCell W A' n' cap' B' xs hx hn' (h'.below hb hB') (by have := hb.size; omega) x y)
 have HSo := Lh iSort
 have H81 := Lh h81
 have HT := Lh (fun C hC => walk_tell (xs := xs) (hs := hs) (C := C) hC)
 have HS := Lh (show Dv w (.slice A' n' cap') [] none 0 (w.alloc (.cells #[.slice A' n' cap'] 26)) from ⟨r1_start w _, ⟨rfl, .inl ⟨rfl, rfl⟩⟩⟩)
 have HW0 := Lh (walk_zero xs hs)
 have HLR := Lh (fun (x y : Int) (c : Int × Int) (hc : c ∈ endsP x y) u v hu hv p1 p2 h1 h2 => lr_dom (xs := xs) (hs := hs) hc (u := u) (v := v) hu hv (p1 := p1) (p2 := p2) h1 h2)
 clear h81 hA hcell hx hn' h' hB' iSort hB hbB
 go_enter Tryz.func74, Tryz.ntmps74
 go_upto_region 2 with fail
 generalize w.alloc _ = W1 at HS ⊢
 go_wp2_with fail
 go_loopg [5, 15] 9 (fun gg so sy wr => ∃ (yN : Nat) (D : List Dm) (Aq : Option Addr) (cq : Nat), yN + gg = 9 ∧ so = .slice Aq D.length cq ∧ sy = .int .i64 yN ∧ Hid (∀ e, e ∈ D ↔ walkG xs hs (9 * yN) 0 e) ∧ Hid (D.length ≤ 4 * (9 * yN)) ∧ Hid (Dv w (.slice A' n' cap') D Aq cq wr))
 case atStart => exact ⟨0, [], none, 0, by omega, rfl, rfl, HW0, Lh (by simp), HS⟩
 case round =>
  clear HS HW0
  obtain ⟨yN, D, Aq, cq, hgg, rfl, rfl, HW, HL, HM⟩ := hrel
  by_cases hy9 : yN < 9
  ·have hyI : (yN : Int) < 9 := by omega
   go_wp2_with fail
   go_loopg [5, 18] 9 (fun gh so sx' wr => ∃ (xN : Nat) (D : List Dm) (Aq : Option Addr) (cq : Nat), xN + gh = 9 ∧ so = .slice Aq D.length cq ∧ sx' = .int .i64 xN ∧ Hid (∀ e, e ∈ D ↔ walkG xs hs (9 * yN + xN) 0 e) ∧ Hid (D.length ≤ 4 * (9 * yN + xN)) ∧ Hid (Dv w (.slice A' n' cap') D Aq cq wr))
   case atStart => exact ⟨0, D, Aq, cq, by omega, rfl, rfl, HW, HL, HM⟩
   case round =>
    clear HW HL HM
    obtain ⟨xN, D, Aq, cq, hgh, rfl, rfl, HW, HL, HM⟩ := hrel
    by_cases hx9 : xN < 9
    ·have hxI : (xN : Int) < 9 := by omega
     obtain ⟨v, hv⟩ : ∃ v, 9 * yN + xN = v := ⟨_, rfl⟩
     obtain ⟨x, hxe⟩ : ∃ x : Int, (xN : Int) = x := ⟨_, rfl⟩
     obtain ⟨y, hye⟩ : ∃ y : Int, (yN : Int) = y := ⟨_, rfl⟩
     have hv81 : v < 81 := by omega
     have ex : x = ((v % 9 : Nat) : Int) := by omega
     have ey : y = ((v / 9 : Nat) : Int) := by omega
     have HEn := Lh (fun W => iEnds x y (by omega) W)
     have HEl := Lh (ends_le x y)
     have HIx := Lh (fun W => show Calls Tryz.prog 83 #[.agg #[.int .i64 x, .int .i64 y]] W (Num (v : Int) W) from by
      have := iIndex x y (by omega) W
      rwa [show y * 9 + x = (v : Int) by omega] at this)
     have HV81 := Lh (And.intro hv81 (And.intro ex (And.intro ey hv)))
     have HXY := Lh (And.intro hxe hye)
     rw [hv] at HW HL
     have hxr : 0 ≤ x ∧ x ≤ 8 ∧ 0 ≤ y ∧ y ≤ 8 := by omega
     have HXR := Lh hxr
     rw [hxe, hye]
     clear hv hv81 ex ey hxr hxI
     go_upto_region 9 with fail
     have hbp := below_alloc1 wr (.cells #[.int .i64 x, .int .i64 y] 96)
     have kp := AtC.new wr x y
     have HM2 := HM.out.on hbp
     generalize wr.alloc (.cells #[.int .i64 x, .int .i64 y] 96) = W2 at kp HM2 ⊢
     generalize wr.heap.size = bp at kp ⊢
     clear hbp HM
     have c0 := kp.c0
     have c1 := kp.c1
     go_wp2_with fail
     refine (HEn.out W2).mono ?_
     rintro e w3 ⟨A2, cap2, rfl, hown, hb3⟩
     have HM3 := Lh (HM2.on hb3)
     have kp3 := Lh (kp.on hb3)
     have HRow := Lh hown
     clear hown hb3 HM2 kp c0 c1 HEn
     have HEk := Lh (fun k (hk : k < (endsP x y).length) => show ∃ c, (endsP x y)[k]? = some c ∧ c ∈ endsP x y from ⟨_, List.getElem?_eq_getElem hk, List.getElem_mem hk⟩)
     have HNx := Lh (fun C hC => walk_next (xs := xs) (hs := hs) (C := C) (v := v) hC)
     have HSt := Lh (fun C k c hk hC => walk_step (xs := xs) (hs := hs) (C := C) (v := v) (k := k) (c := c) hk hC)
     have HLRv := Lh (HLR.out x y)
     rw [← HV81.out.2.1, ← HV81.out.2.2.1] at HNx HSt
     have HEd := Lh (fun c hc => ends_dir (x := x) (y := y) (c := c) hc)
     generalize endsP x y = E at HEl HRow HEk HNx HSt HLRv HEd ⊢
     obtain ⟨m, hmL⟩ : ∃ m, m = E.length := ⟨_, rfl⟩
     rw [← hmL] at HEl HEk HNx HRow ⊢
     have hm4 := HEl.out
     have HMe := Lh hmL
     clear hmL
     obtain ⟨lo, hlo⟩ : ∃ lo, W2.heap.size = lo := ⟨_, rfl⟩
     rw [hlo] at HRow
     clear hlo
     go_wp2_with fail
     go_loopg [5, 27] m (fun gi so sk wr => ∃ (k : Nat) (D : List Dm) (Aq : Option Addr) (cq : Nat), k + gi = m ∧ so = .slice Aq D.length cq ∧ sk = .int .i64 k ∧ Hid (∀ e, e ∈ D ↔ walkG xs hs v k e) ∧ Hid (D.length ≤ 4 * v + k) ∧ Hid (Dv w (.slice A' n' cap') D Aq cq wr) ∧ Hid (AtC wr bp x y) ∧ Hid (wr.ownsRow lo 96 2 (.slice A2 m cap2) m (rowC E)))
     case atStart => exact ⟨0, D, Aq, cq, by omega, rfl, rfl, HW, Lh (by have := HL.out; omega), HM3, kp3, HRow⟩
     case round =>
      clear HW HL HM3 kp3 HRow
      obtain ⟨k, D, Aq, cq, hgi, rfl, rfl, HW, HL, HM, HKp, HB3⟩ := hrel
      obtain ⟨nD, hnD⟩ : ∃ nD, D.length = nD := ⟨_, rfl⟩
      have HND := Lh hnD
      rw [hnD]
      clear hnD
      by_cases hkm : k < m
      ·obtain ⟨c, hck, hcm⟩ := HEk.out k hkm
       obtain ⟨hin, _⟩ := HEd.out c hcm
       obtain ⟨bE, offE, hE1, hE2⟩ := rowC_own HB3.out
       obtain ⟨rfl, hbE⟩ := hE1 (by rw [← HMe.out]; omega)
       obtain ⟨d0, d1⟩ := hE2 k c hck
       clear hE1 hE2
       have hkI : (k : Int) < (m : Int) := by omega
       obtain ⟨wi, hwi⟩ : ∃ wi, pl9 c = wi := ⟨_, rfl⟩
       have hwi81 : wi < 81 := by rw [← hwi]; unfold pl9; omega
       have ewx : c.1 = ((wi % 9 : Nat) : Int) := by rw [← hwi]; unfold pl9; omega
       have ewy : c.2 = ((wi / 9 : Nat) : Int) := by rw [← hwi]; unfold pl9; omega
       have hvp : pl9 (x, y) = v := by
        obtain ⟨a1, a2, a3, _⟩ := HV81.out
        unfold pl9; simp only; omega
       obtain ⟨hu, hhu⟩ : ∃ hu, hs[v]? = some hu := ⟨_, List.getElem?_eq_getElem (by rw [H81.out]; exact HV81.out.1)⟩
       obtain ⟨hv', hhv⟩ : ∃ hv', hs[wi]? = some hv' := ⟨_, List.getElem?_eq_getElem (by rw [H81.out]; exact hwi81)⟩
       obtain ⟨p1, hp1⟩ : ∃ p1, hasB xs (clX x y c.1 c.2) (clY x y c.1 c.2) = p1 := ⟨_, rfl⟩
       obtain ⟨p2, hp2⟩ : ∃ p2, hasB xs (clX c.1 c.2 x y) (clY c.1 c.2 x y) = p2 := ⟨_, rfl⟩
       have HLR2 := Lh (HLRv.out c hcm hu hv' (by rw [hvp]; exact hhu) (by rw [hwi]; exact hhv) p1 p2 hp1 hp2)
       have HSt2 := Lh (HSt.out D k c hck HW.out)
       have HBs := Lh (fun W => iBeside x y c.1 c.2 HXR.out (by omega) W)
       have HIq := Lh (fun W => show Calls Tryz.prog 83 #[.agg #[.int .i64 c.1, .int .i64 c.2]] W (Num (wi : Int) W) from by
        have := iIndex c.1 c.2 (by omega) W
        rwa [show c.2 * 9 + c.1 = (wi : Int) by omega] at this)
       have HC1 := Lh (fun W hb => show Calls Tryz.prog 104 #[.agg #[.slice A' n' cap'], .agg #[.int .i64 (clX x y c.1 c.2), .int .i64 (clY x y c.1 c.2)]] W (Bol p1 W) from hp1 ▸ HCl.out W hb _ _)
       have HC2 := Lh (fun W hb => show Calls Tryz.prog 104 #[.agg #[.slice A' n' cap'], .agg #[.int .i64 (clX c.1 c.2 x y), .int .i64 (clY c.1 c.2 x y)]] W (Bol p2 W) from hp2 ▸ HCl.out W hb _ _)
       have HDo := Lh (fun hn W => iDominoOver_ok (clX x y c.1 c.2) (clY x y c.1 c.2) (clX c.1 c.2 x y) (clY c.1 c.2 x y) hn W)
       have HU := Lh hhu
       have HV := Lh hhv
       have HWI := Lh hwi81
       obtain ⟨cx, cy⟩ := c
       simp only at d0 d1 HLR2 HSt2 HBs HIq HC1 HC2 HDo
       have HSd := Lh (show sdM ((v % 9 : Nat) : Int) ((v / 9 : Nat) : Int) cx cy = sdM x y cx cy by rw [← HV81.out.2.1, ← HV81.out.2.2.1])
       clear hin hck hcm hwi ewx ewy hvp hhu hhv hp1 hp2 hwi81
       go_upto_region 12 with fail
       have hbq := below_alloc1 wr (.cells #[.int .i64 cx, .int .i64 cy] 96)
       have kq := AtC.new wr cx cy
       have T := HM.out.on hbq
       have kp := HKp.out.on hbq
       have HB4 := Lh (own_below HB3.out hbq NR)
       generalize wr.alloc (.cells #[.int .i64 cx, .int .i64 cy] 96) = W4 at kq T kp HB4 ⊢
       generalize wr.heap.size = bq at kq ⊢
       clear hbq d0 d1 HM HKp HB3
       have e0 := kp.c0
       have e1 := kp.c1
       have e2 := kq.c0
       have e3 := kq.c1
       go_wp2_with fail
       refine (HBs.out _).mono ?_
       rintro e w5 ⟨rfl, hb5⟩
       have T := T.on hb5
       have kp := kp.on hb5
       have kq := kq.on hb5
       have HB5 := Lh (own_below HB4.out hb5 NR)
       clear e0 e1 e2 e3 hb5 HBs HB4
       generalize clX x y cx cy = lx at HC1 HDo HLR2 ⊢
       generalize clY x y cx cy = ly at HC1 HDo HLR2 ⊢
       generalize clX cx cy x y = rx at HC2 HDo HLR2 ⊢
       generalize clY cx cy x y = ry at HC2 HDo HLR2 ⊢
       go_upto_region 13 with fail
       obtain ⟨kl, kr, k3⟩ := at2_two w5 lx ly rx ry
       have T := T.on k3
       have kp := kp.on k3
       have kq := kq.on k3
       have HB6 := Lh (own_below HB5.out k3 NR)
       generalize (w5.alloc (.cells #[.int .i64 lx, .int .i64 ly] 79)).alloc (.cells #[.int .i64 rx, .int .i64 ry] 79) = W6 at kl kr T kp kq HB6 ⊢
       generalize w5.heap.size = bl at kl kr ⊢
       clear k3 HB5
       obtain ⟨pz, hpz⟩ : ∃ pz, (p1 && (p2 && (wrap64 (hv' - hu) == 3))) = pz := ⟨_, rfl⟩
       have HPzz := Lh hpz
       obtain ⟨g3, hg3⟩ : ∃ g3, (wrap64 (hv' - hu) == 3) = g3 := ⟨_, rfl⟩
       rw [hg3] at hpz
       have hg3k : (IntKind.i64.wrap (hv' - hu) == 3) = g3 := by rw [show IntKind.i64.wrap (hv' - hu) = wrap64 (hv' - hu) by rw [IntKind.wrap_i64]; unfold wrap64; omega]; exact hg3
       have HPz1 := Lh hpz
       clear hpz
       go_cut [27, 58] from 27 to 69 (fun s27 s58 wx => s27 = .int .i64 (k : Int) ∧ s58 = .bool pz ∧ Below W6.heap.size W6 wx)
       case first =>
        have HBx := (Below.refl W6.heap.size W6).drew
        have T := T.drew
        have kl : At2 W6.drew bl lx ly := kl
        have kr : At2 W6.drew (bl + 1) rx ry := kr
        have kp := kp.drew
        have kq := kq.drew
        have hvI : (v : Int) < 81 := by have := HV81.out.1; omega
        have hwI : (wi : Int) < 81 := by have := HWI.out; omega
        have HS3 := And.intro T.r1.2.c0 (And.intro kl.c0 (And.intro kl.c1 (And.intro kr.c0 (And.intro kr.c1 (And.intro kp.c0 (And.intro kp.c1 (And.intro kq.c0 (And.intro kq.c1 (And.intro (HHs.out _ T.r1.1 _ _ HU.out) (HHs.out _ T.r1.1 _ _ HV.out))))))))))
        cases p1 with
        | false =>
         have HPz2 := Lh (show false = pz from HPz1.out)
         refine wp_region_noPanic ?_
         refine wp_region_held_drew (S := (fun w' => w'.cell? ⟨w.heap.size, 0, none⟩ = some (.slice A' n' cap') ∧ w'.cell? ⟨bl, 0, none⟩ = some (.int .i64 lx) ∧ w'.cell? ⟨bl, 1, none⟩ = some (.int .i64 ly) ∧ w'.cell? ⟨bl + 1, 0, none⟩ = some (.int .i64 rx) ∧ w'.cell? ⟨bl + 1, 1, none⟩ = some (.int .i64 ry) ∧ w'.cell? ⟨bp, 0, none⟩ = some (.int .i64 x) ∧ w'.cell? ⟨bp, 1, none⟩ = some (.int .i64 y) ∧ w'.cell? ⟨bq, 0, none⟩ = some (.int .i64 cx) ∧ w'.cell? ⟨bq, 1, none⟩ = some (.int .i64 cy) ∧ w'.cell? ⟨b0, off + v, none⟩ = some (.int .i64 hu) ∧ w'.cell? ⟨b0, off + wi, none⟩ = some (.int .i64 hv'))) (by kernel_rfl) HS3 (fun hHeld => ?_)
         generalize World.drew _ = WR at HBx T kl kr kp kq HS3 hHeld ⊢
         refine tk 0 ?_; try simp only [Act.put, zk]
         refine tk 1 ?_; try simp only [Act.put, zk]
         refine tr 2 fun K hK => ?_
         go_simp
         refine (HC1.out _ T.r1.1).mono ?_
         rintro e wx ⟨rfl, hbx⟩
         have HBx := HBx.trans (hbx.mono HBx.size)
         have T := T.on hbx
         have kl := kl.on hbx
         have kr := kr.on hbx
         have kp := kp.on hbx
         have kq := kq.on hbx
         clear hbx HS3
         have HS3 := And.intro T.r1.2.c0 (And.intro kl.c0 (And.intro kl.c1 (And.intro kr.c0 (And.intro kr.c1 (And.intro kp.c0 (And.intro kp.c1 (And.intro kq.c0 (And.intro kq.c1 (And.intro (HHs.out _ T.r1.1 _ _ HU.out) (HHs.out _ T.r1.1 _ _ HV.out))))))))))
         go_wp2_with fail
         refine hK.out _ _ (HS3) (fun hHeld => ?_)
         clear hK K
         try simp only [Act.put, zk]
         refine tk 3 ?_; try simp only [Act.put, zk]
         refine tu 4 ?_; try simp only [Act.put, zk]
         refine tu 5 ?_; try simp only [Act.put, zk]
         refine tu 6 ?_; try simp only [Act.put, zk]
         refine tk 7 ?_; try simp only [Act.put, zk]
         refine tk 8 ?_; try simp only [Act.put, zk]
         refine tu 9 ?_; try simp only [Act.put, zk]
         refine tu 10 ?_; try simp only [Act.put, zk]
         refine tu 11 ?_; try simp only [Act.put, zk]
         refine tu 12 ?_; try simp only [Act.put, zk]
         refine tu 13 ?_; try simp only [Act.put, zk]
         refine tu 14 ?_; try simp only [Act.put, zk]
         refine tu 15 ?_; try simp only [Act.put, zk]
         refine tu 16 ?_; try simp only [Act.put, zk]
         refine tu 17 ?_; try simp only [Act.put, zk]
         refine tu 18 ?_; try simp only [Act.put, zk]
         refine tu 19 ?_; try simp only [Act.put, zk]
         refine tu 20 ?_; try simp only [Act.put, zk]
         refine tk 21 ?_; try simp only [Act.put, zk]
         refine wpAnyH_done (by kernel_rfl) (NoPanic.normal ?_) _
         clear hHeld HS3
         go_wp2_with fail
         go_meet
         exact ⟨rfl, congrArg Value.bool HPz2.out, HBx⟩
        | true =>
         cases p2 with
         | false =>
          have HPz2 := Lh (show false = pz from HPz1.out)
          refine wp_region_noPanic ?_
          refine wp_region_held_drew (S := (fun w' => w'.cell? ⟨w.heap.size, 0, none⟩ = some (.slice A' n' cap') ∧ w'.cell? ⟨bl, 0, none⟩ = some (.int .i64 lx) ∧ w'.cell? ⟨bl, 1, none⟩ = some (.int .i64 ly) ∧ w'.cell? ⟨bl + 1, 0, none⟩ = some (.int .i64 rx) ∧ w'.cell? ⟨bl + 1, 1, none⟩ = some (.int .i64 ry) ∧ w'.cell? ⟨bp, 0, none⟩ = some (.int .i64 x) ∧ w'.cell? ⟨bp, 1, none⟩ = some (.int .i64 y) ∧ w'.cell? ⟨bq, 0, none⟩ = some (.int .i64 cx) ∧ w'.cell? ⟨bq, 1, none⟩ = some (.int .i64 cy) ∧ w'.cell? ⟨b0, off + v, none⟩ = some (.int .i64 hu) ∧ w'.cell? ⟨b0, off + wi, none⟩ = some (.int .i64 hv'))) (by kernel_rfl) HS3 (fun hHeld => ?_)
          generalize World.drew _ = WR at HBx T kl kr kp kq HS3 hHeld ⊢
          refine tk 0 ?_; try simp only [Act.put, zk]
          refine tk 1 ?_; try simp only [Act.put, zk]
          refine tr 2 fun K hK => ?_
          go_simp
          refine (HC1.out _ T.r1.1).mono ?_
          rintro e wx ⟨rfl, hbx⟩
          have HBx := HBx.trans (hbx.mono HBx.size)
          have T := T.on hbx
          have kl := kl.on hbx
          have kr := kr.on hbx
          have kp := kp.on hbx
          have kq := kq.on hbx
          clear hbx HS3
          have HS3 := And.intro T.r1.2.c0 (And.intro kl.c0 (And.intro kl.c1 (And.intro kr.c0 (And.intro kr.c1 (And.intro kp.c0 (And.intro kp.c1 (And.intro kq.c0 (And.intro kq.c1 (And.intro (HHs.out _ T.r1.1 _ _ HU.out) (HHs.out _ T.r1.1 _ _ HV.out))))))))))
          go_wp2_with fail
          refine hK.out _ _ (HS3) (fun hHeld => ?_)
          clear hK K
          try simp only [Act.put, zk]
          refine tk 3 ?_; try simp only [Act.put, zk]
          refine tk 4 ?_; try simp only [Act.put, zk]
          refine tk 5 ?_; try simp only [Act.put, zk]
          refine tr 6 fun K hK => ?_
          go_simp
          refine (HC2.out _ T.r1.1).mono ?_
          rintro e wx ⟨rfl, hbx⟩
          have HBx := HBx.trans (hbx.mono HBx.size)
          have T := T.on hbx
          have kl := kl.on hbx
          have kr := kr.on hbx
          have kp := kp.on hbx
          have kq := kq.on hbx
          clear hbx HS3
          have HS3 := And.intro T.r1.2.c0 (And.intro kl.c0 (And.intro kl.c1 (And.intro kr.c0 (And.intro kr.c1 (And.intro kp.c0 (And.intro kp.c1 (And.intro kq.c0 (And.intro kq.c1 (And.intro (HHs.out _ T.r1.1 _ _ HU.out) (HHs.out _ T.r1.1 _ _ HV.out))))))))))
          go_wp2_with fail
          refine hK.out _ _ (HS3) (fun hHeld => ?_)
          clear hK K
          try simp only [Act.put, zk]
          refine tk 7 ?_; try simp only [Act.put, zk]
          refine tk 8 ?_; try simp only [Act.put, zk]
          refine tu 9 ?_; try simp only [Act.put, zk]
          refine tu 10 ?_; try simp only [Act.put, zk]
          refine tu 11 ?_; try simp only [Act.put, zk]
          refine tu 12 ?_; try simp only [Act.put, zk]
          refine tu 13 ?_; try simp only [Act.put, zk]
          refine tu 14 ?_; try simp only [Act.put, zk]
          refine tu 15 ?_; try simp only [Act.put, zk]
          refine tu 16 ?_; try simp only [Act.put, zk]
          refine tu 17 ?_; try simp only [Act.put, zk]
          refine tu 18 ?_; try simp only [Act.put, zk]
          refine tu 19 ?_; try simp only [Act.put, zk]
          refine tu 20 ?_; try simp only [Act.put, zk]
          refine tk 21 ?_; try simp only [Act.put, zk]
          refine wpAnyH_done (by kernel_rfl) (NoPanic.normal ?_) _
          clear hHeld HS3
          go_wp2_with fail
          go_meet
          exact ⟨rfl, congrArg Value.bool HPz2.out, HBx⟩
         | true =>
          have HPz2 := Lh (show g3 = pz from HPz1.out)
          refine wp_region_noPanic ?_
          refine wp_region_held_drew (S := (fun w' => w'.cell? ⟨w.heap.size, 0, none⟩ = some (.slice A' n' cap') ∧ w'.cell? ⟨bl, 0, none⟩ = some (.int .i64 lx) ∧ w'.cell? ⟨bl, 1, none⟩ = some (.int .i64 ly) ∧ w'.cell? ⟨bl + 1, 0, none⟩ = some (.int .i64 rx) ∧ w'.cell? ⟨bl + 1, 1, none⟩ = some (.int .i64 ry) ∧ w'.cell? ⟨bp, 0, none⟩ = some (.int .i64 x) ∧ w'.cell? ⟨bp, 1, none⟩ = some (.int .i64 y) ∧ w'.cell? ⟨bq, 0, none⟩ = some (.int .i64 cx) ∧ w'.cell? ⟨bq, 1, none⟩ = some (.int .i64 cy) ∧ w'.cell? ⟨b0, off + v, none⟩ = some (.int .i64 hu) ∧ w'.cell? ⟨b0, off + wi, none⟩ = some (.int .i64 hv'))) (by kernel_rfl) HS3 (fun hHeld => ?_)
          generalize World.drew _ = WR at HBx T kl kr kp kq HS3 hHeld ⊢
          refine tk 0 ?_; try simp only [Act.put, zk]
          refine tk 1 ?_; try simp only [Act.put, zk]
          refine tr 2 fun K hK => ?_
          go_simp
          refine (HC1.out _ T.r1.1).mono ?_
          rintro e wx ⟨rfl, hbx⟩
          have HBx := HBx.trans (hbx.mono HBx.size)
          have T := T.on hbx
          have kl := kl.on hbx
          have kr := kr.on hbx
          have kp := kp.on hbx
          have kq := kq.on hbx
          clear hbx HS3
          have HS3 := And.intro T.r1.2.c0 (And.intro kl.c0 (And.intro kl.c1 (And.intro kr.c0 (And.intro kr.c1 (And.intro kp.c0 (And.intro kp.c1 (And.intro kq.c0 (And.intro kq.c1 (And.intro (HHs.out _ T.r1.1 _ _ HU.out) (HHs.out _ T.r1.1 _ _ HV.out))))))))))
          go_wp2_with fail
          refine hK.out _ _ (HS3) (fun hHeld => ?_)
          clear hK K
          try simp only [Act.put, zk]
          refine tk 3 ?_; try simp only [Act.put, zk]
          refine tk 4 ?_; try simp only [Act.put, zk]
          refine tk 5 ?_; try simp only [Act.put, zk]
          refine tr 6 fun K hK => ?_
          go_simp
          refine (HC2.out _ T.r1.1).mono ?_
          rintro e wx ⟨rfl, hbx⟩
          have HBx := HBx.trans (hbx.mono HBx.size)
          have T := T.on hbx
          have kl := kl.on hbx
          have kr := kr.on hbx
          have kp := kp.on hbx
          have kq := kq.on hbx
          clear hbx HS3
          have HS3 := And.intro T.r1.2.c0 (And.intro kl.c0 (And.intro kl.c1 (And.intro kr.c0 (And.intro kr.c1 (And.intro kp.c0 (And.intro kp.c1 (And.intro kq.c0 (And.intro kq.c1 (And.intro (HHs.out _ T.r1.1 _ _ HU.out) (HHs.out _ T.r1.1 _ _ HV.out))))))))))
          go_wp2_with fail
          refine hK.out _ _ (HS3) (fun hHeld => ?_)
          clear hK K
          try simp only [Act.put, zk]
          refine tk 7 ?_; try simp only [Act.put, zk]
          refine tk 8 ?_; try simp only [Act.put, zk]
          refine tk 9 ?_; try simp only [Act.put, zk]
          refine tk 10 ?_; try simp only [Act.put, zk]
          refine tk 14 ?_; try simp only [Act.put, zk]
          refine tk 15 ?_; try simp only [Act.put, zk]
          refine tr 11 fun K hK => ?_
          go_simp
          refine (HIq.out _).mono ?_
          rintro e wx ⟨rfl, hbx⟩
          have HBx := HBx.trans (hbx.mono HBx.size)
          have T := T.on hbx
          have kl := kl.on hbx
          have kr := kr.on hbx
          have kp := kp.on hbx
          have kq := kq.on hbx
          clear hbx HS3
          have HS3 := And.intro T.r1.2.c0 (And.intro kl.c0 (And.intro kl.c1 (And.intro kr.c0 (And.intro kr.c1 (And.intro kp.c0 (And.intro kp.c1 (And.intro kq.c0 (And.intro kq.c1 (And.intro (HHs.out _ T.r1.1 _ _ HU.out) (HHs.out _ T.r1.1 _ _ HV.out))))))))))
          go_wp2_with fail
          refine hK.out _ _ (HS3) (fun hHeld => ?_)
          clear hK K
          try simp only [Act.put, zk]
          refine tk 12 ?_; try simp only [Act.put, zk]
          refine tk 13 ?_; try simp only [Act.put, zk]
          refine tr 16 fun K hK => ?_
          go_simp
          refine (HIx.out _).mono ?_
          rintro e wx ⟨rfl, hbx⟩
          have HBx := HBx.trans (hbx.mono HBx.size)
          have T := T.on hbx
          have kl := kl.on hbx
          have kr := kr.on hbx
          have kp := kp.on hbx
          have kq := kq.on hbx
          clear hbx HS3
          have HS3 := And.intro T.r1.2.c0 (And.intro kl.c0 (And.intro kl.c1 (And.intro kr.c0 (And.intro kr.c1 (And.intro kp.c0 (And.intro kp.c1 (And.intro kq.c0 (And.intro kq.c1 (And.intro (HHs.out _ T.r1.1 _ _ HU.out) (HHs.out _ T.r1.1 _ _ HV.out))))))))))
          go_wp2_with fail
          refine hK.out _ _ (HS3) (fun hHeld => ?_)
          clear hK K
          try simp only [Act.put, zk]
          refine tk 17 ?_; try simp only [Act.put, zk]
          refine tk 18 ?_; try simp only [Act.put, zk]
          refine tk 19 ?_; try simp only [Act.put, zk]
          refine tk 20 ?_; try simp only [Act.put, zk]
          refine tk 21 ?_; try simp only [Act.put, zk]
          refine wpAnyH_done (by kernel_rfl) (NoPanic.normal ?_) _
          clear hHeld HS3
          go_wp2_with fail
          go_meet
          exact ⟨rfl, congrArg Value.bool HPz2.out, HBx⟩
       case rest =>
        obtain ⟨rfl, rfl, hbx⟩ := hcut
        have T := T.on hbx
        have kl := kl.on hbx
        have kr := kr.on hbx
        have kp := Lh (kp.on hbx)
        have HB7 := Lh (own_below HB6.out hbx NR)
        clear kq hbx HB6 hg3 hg3k HPz1 HIq HC1 HC2
        cases pz with
        | false =>
         have HWn := Lh (HSt2.out.2 (fun q => by have := HLR2.out.1.1 q; rw [HPzz.out] at this; cases this))
         have HLn := Lh (show D.length ≤ 4 * v + (k + 1) from by have := HL.out; omega)
         have HM := Lh T
         clear T kl kr HSt2 HLR2 HL HW
         go_wp2
         go_roundg (gk - 1)
         case measure => omega
         case rel => exact ⟨k + 1, D, Aq, cq, by omega, by rw [HND.out], by go_num, HWn, HLn, HM, kp, HB7⟩
        | true =>
         have hup := HLR2.out.1.2 HPzz.out
         obtain ⟨hnb, hdm⟩ := HLR2.out.2 hup
         have HDo2 := Lh (HDo.out hnb)
         have HWn := Lh (HSt2.out.1 hup)
         rw [← hdm] at HWn
         generalize mn lx rx = e1 at HDo2 HWn
         generalize mn ly ry = e2 at HDo2 HWn
         generalize decide (lx = rx) = e3 at HDo2 HWn
         have HLn := Lh (show D.length ≤ 4 * v + k from HL.out)
         clear hup hnb hdm HDo HSt2 HLR2 HL HW
         have q0 := kl.c0
         have q1 := kl.c1
         have q2 := kr.c0
         have q3 := kr.c1
         go_wp2_with fail
         refine (HDo2.out _).mono ?_
         rintro e w8 ⟨rfl, hb8⟩
         have T := T.on hb8
         have kp := Lh (kp.out.on hb8)
         have HB8 := Lh (own_below HB7.out hb8 NR)
         clear q0 q1 q2 q3 kl kr hb8 HDo2 HB7
         go_upto_region 15 with fail
         have hba := below_alloc1 w8 (.cells #[.int .i64 e1, .int .i64 e2, .bool e3] 63)
         have kd := At3.new 63 w8 e1 e2 e3
         have T := T.on hba
         have kp := Lh (kp.out.on hba)
         have HB9 := Lh (own_below HB8.out hba NR)
         generalize w8.alloc _ = W9 at T kd kp HB9 ⊢
         clear hba HB8
         have q0 := kd.c0
         have q1 := kd.c1
         have q2 := kd.c2
         have hnD : nD ≤ 400 := by have := HLn.out; have := HND.out; have := HV81.out.1; omega
         have hbz := T.r1.1.size
         have hw9 : w.heap.size < W9.heap.size := (Array.getElem?_eq_some_iff.1 T.r1.2).1
         go_wp2_with (first
          | (at_builtin; refine wpList_append_own _ rfl _ _ 27 rfl (w.heap.size + 1) 63 i0 (.agg #[.int .i64 0, .int .i64 0, .bool false]) 3 24 Tryz.underlying27 hi hz0 hz1 hz2 rfl (by decide) _ nD (rowM D) rfl (HND.out ▸ T.own.alloc _) ⟨W9.heap.size, 0, none⟩ 1 1 [.int .i64 e1, .int .i64 e2, .bool e3] rfl rfl (World.news_of_block (cs := #[.int .i64 e1, .int .i64 e2, .bool e3]) (t := 63) (fr := (0, 0)) (heap_alloc_new W9 _)) (by simp [Value.oneCell']) (by unfold maxLen; omega) (by omega) (by simp; omega) ?_; intro v2 w10 hown10 hgrow10 _))
         obtain ⟨A10, c10, rfl⟩ := own_shape hown10
         have HM := Lh (T.grow (e := (e1, e2, e3)) HND.out hown10 hgrow10)
         have hba := below_alloc1 W9 (.cells #[.int .i64 e1, .int .i64 e2, .bool e3] 63)
         have hto := (T.on hba).own
         rw [HND.out] at hto
         have hbg : w10.ownsRow lo 96 2 (.slice (some ⟨bE, offE, none⟩) m cap2) m (rowC E) ∧ AtC w10 bp x y :=
          ⟨World.ownsRow.kept (own_below HB9.out hba NR) hgrow10 (rows_apart (own_below HB9.out hba NR) hto (by decide)), (kp.out.on hba).kept hto (by decide) hgrow10⟩
         have HB10 := Lh hbg.1
         have kp := Lh hbg.2
         have HLn2 := Lh (show (D ++ [((e1, e2, e3) : Dm)]).length ≤ 4 * v + (k + 1) from by rw [List.length_append]; have := HLn.out; simp; omega)
         clear hown10 hgrow10 T kd hba hbg hto HLn
         go_wp2
         go_roundg (gk - 1)
         case measure => omega
         case rel => exact ⟨k + 1, D ++ [(e1, e2, e3)], A10, c10, by omega, by rw [List.length_append, HND.out]; rfl, by go_num, HWn, HLn2, HM, kp, HB10⟩
      ·obtain rfl : k = m := by omega
       have HW2 := Lh (HNx.out D HW.out)
       have HL2 := Lh (show D.length ≤ 4 * (9 * yN + (xN + 1)) from by have := HL.out; have := HV81.out.2.2.2; omega)
       have hv1 := HV81.out.2.2.2
       rw [show v + 1 = 9 * yN + (xN + 1) by omega] at HW2
       clear HW HL hv1
       have hsub := HXY.out
       obtain ⟨rfl, rfl⟩ := hsub
       go_wp2
       go_roundg (9 - (xN + 1))
       case measure => omega
       case rel => exact ⟨xN + 1, D, Aq, cq, by omega, by rw [HND.out], by go_num, HW2, HL2, HM⟩
    ·obtain rfl : xN = 9 := by omega
     have HW2 := Lh (show ∀ e, e ∈ D ↔ walkG xs hs (9 * (yN + 1)) 0 e from by have := HW.out; rwa [show 9 * yN + 9 = 9 * (yN + 1) by omega] at this)
     have HL2 := Lh (show D.length ≤ 4 * (9 * (yN + 1)) from by have := HL.out; omega)
     clear HW HL
     go_wp2
     go_roundg (9 - (yN + 1))
     case measure => omega
     case rel => exact ⟨yN + 1, D, Aq, cq, by omega, rfl, by go_num, HW2, HL2, HM⟩
  ·obtain rfl : yN = 9 := by omega
   have HC := Lh (HT.out D (by have := HW.out; exact this))
   have HFt := Lh (ok_fits (L := D) (fun e he => walk_ok ((HW.out e).1 he)))
   have HD2 := Lh (HL.out)
   obtain ⟨nD, hnD⟩ : ∃ nD, D.length = nD := ⟨_, rfl⟩
   have HSr := Lh (fun W A1 c (hr : RowM W W.heap.size A1 D) => HSo.out W A1 nD c D hnD (by have := HD2.out; omega) HFt.out hr)
   have HOw := Lh (rowM_own HM.out.own)
   have HB := Lh HM.out.r1.1
   rw [hnD]
   clear hnD HW HL HM
   go_wp2_with fail
   refine (HSr.out _ _ _ HOw.out).mono ?_
   rintro e w9 ⟨Ar, cr, rfl, hle, hown, hb9⟩
   have HO := Lh hown
   have HB9 := Lh (HB.out.trans (hb9.mono HB.out.size))
   have HLe := Lh hle
   have hbz := HB.out.size
   have HO2 := Lh (own_base HO.out hbz)
   clear hown hb9
   go_wp2
   go_ret
   exact ⟨D, HC.out, by have := HD2.out; omega, Ar, cr, rfl, HLe.out, HO2.out, HB9.out⟩
end Go.Proofs.YtmajllgfmclcoaaGreatDoor.Cor
