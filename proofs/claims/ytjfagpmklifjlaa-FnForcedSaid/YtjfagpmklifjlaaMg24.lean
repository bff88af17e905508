/- FrI in one text. -/
import Derived.Test.YtjfagpmklifjlaaMg17
import Derived.Test.YtjfagpmklifjlaaMg23
import Derived.Test.YtjfagpmklifjlaaMg18
import Derived.Test.YtjfagpmklifjlaaMg13

namespace Go.Proofs.Ytjfagpmklifjlaa.Frd
set_option linter.unusedVariables false
set_option linter.unusedSimpArgs false
set_option maxRecDepth 100000
open Go.RowKit Go.Proofs.Ytjfagpmklifjlaa.Pure Go.Proofs.Ytjfagpmklifjlaa.Cell Go.Proofs.Ytjfagpmklifjlaa.Cels Go.Proofs.Ytjfagpmklifjlaa.Dom Go.Proofs.Ytjfagpmklifjlaa.Dms Go.Proofs.Ytjfagpmklifjlaa.Til Go.Proofs.Ytjfagpmklifjlaa.Fr Go.Joins
open Go.Proofs.Ytjfagpmklifjlaa.Prof (withT iCountWith)
open Go.Proofs.Ytjfagpmklifjlaa.Cnt (tilesR)
open Go.Proofs.Ytjfagpmklifjlaa.Reg hiding RC rc_start

theorem cW_wf (xs : List Int) (d : Dm) : (Lit.int .i64 (cW xs d)).wf = true := by
 have hT : ∀ ys, (Lit.int .i64 (tilesR ys)).wf = true := fun ys => by
  unfold tilesR; split
  ·exact wrap64_wf _
  ·rfl
 unfold cW withT
 split
 ·exact hT _
 ·rfl
theorem OwnD.obj {w : World} {b n : Nat} {E : List Dm} {c : Dm → Int} (h : OwnD w b n E c) : ∃ es clock, w.heap[b]? = some (.map es clock) := by
 obtain ⟨D, ⟨es, clock, hb, _⟩, _⟩ := h
 exact ⟨es, clock, hb⟩
section
variable {ops : Array Oper} {rest : List Oper} {o : Oper} {a : Act} {Q : Exit → Act → World → Prop}
theorem range_d (w : World) (hg : o.guard = none) (x : Operand) (hop : o.op = Op.range 90 x) (b n : Nat) (E : List Dm) (c : Dm → Int) (hn : n ≤ 1000) (hm : a.eval x = .map (some b)) (h : OwnD w b n E c)
  (hK : ∀ w' cnt, cnt ≤ n → RgD w' b w.heap.size E c (fun d => decide (d ∈ E)) cnt → w.grownBy w' none → w'.heap.size = w.heap.size + 1 → wpList Try.prog ops Q rest (a.put o.dst (.pointer (some ⟨w.heap.size, 0, none⟩))) w') :
  wpList Try.prog ops Q (o :: rest) a w := by
 refine wpList_plain hg fun K' hK' => ?_
 obtain ⟨w', cnt, hrun, r0, r1, r2, r3⟩ := h.range hn
 unfold Oper.wp
 simp [execOp, hop, hm, hrun, Result.andThen]
 exact hK' _ _ (hK w' cnt r0 r1 r2 r3)
theorem store_d (w : World) (hg : o.guard = none) (m x v : Operand) (hop : o.op = Op.mapUpdate 90 m x v) (b n : Nat) (E : List Dm) (c : Dm → Int) (d : Dm) (hn : n < 1000) (hm : a.eval m = .map (some b)) (hx : a.eval x = dV d) (hv : a.eval v = .int .i64 (c d)) (hd : Kf d) (hc : (Lit.int .i64 (c d)).wf = true) (h : OwnD w b n E c)
  (hK : ∀ w', OwnD w' b (n + 1) (E ++ [d]) c → w.mapTurned w' b → wpList Try.prog ops Q rest (a.put o.dst undef) w') :
  wpList Try.prog ops Q (o :: rest) a w := by
 refine wpList_plain hg fun K' hK' => ?_
 obtain ⟨w', hrun, r0, r1⟩ := h.store hn hd hc
 unfold Oper.wp
 simp [execOp, hop, hm, hx, hv, hrun, Result.andThen]
 exact hK' _ _ (hK w' r0 r1)
end
structure CS (w : World) (v : Value) (b off : Nat) (C : List (Int × Int)) (k : Nat) (E : List Dm) (c : Dm → Int) (W : World) : Prop where
 bel : Below w.heap.size w W
 box : Rg W w.heap.size v
 own : OwnD W (w.heap.size + 1) k E c
 rd : RdC W b off C
section
variable {w W W' : World} {v : Value} {b off k : Nat} {C : List (Int × Int)} {E E' : List Dm} {c : Dm → Int}
theorem CS.on (h : CS w v b off C k E c W) (hb : Below W.heap.size W W') : CS w v b off C k E c W' := ⟨h.bel.trans (hb.mono h.bel.size), h.box.on hb, h.own.on hb, h.rd.on hb⟩
theorem CS.up {k' : Nat} (h : CS w v b off C k E c W) (hk : k ≤ k') : CS w v b off C k' E c W := ⟨h.bel, h.box, h.own.up hk, h.rd⟩
theorem CS.put {k' : Nat} (h : CS w v b off C k E c W) (ho : OwnD W' (w.heap.size + 1) k' E' c) (hm : W.mapTurned W' (w.heap.size + 1)) : CS w v b off C k' E' c W' := by
 have hg := turned_grown hm
 have hne : 0 < C.length → w.heap.size + 1 ≠ b := fun h0 e => by
  obtain ⟨es, clock, hb⟩ := h.own.obj
  have := (h.rd.2 0 C[0] (List.getElem?_eq_getElem h0)).1
  rw [← e] at this
  simp [World.cell?, hb] at this
 exact ⟨h.bel.grown hg h.bel.size (fun g e => by injection e with e; omega), (hg.block _ h.box.lt (by intro e; injection e with e; omega)).trans h.box, ho, h.rd.grown hg hne⟩
end
def CoP (xs : List Int) (w : World) (e : Ending) (w' : World) : Prop := ∃ m, e = .returned (.map (some m)) ∧ OwnD w' m 128 (candP xs) (cW xs) ∧ w.heap.size ≤ m ∧ Below w.heap.size w w'
theorem cells_small {xs : List Int} {p : Int × Int} (h : p ∈ cellsR xs) : (0 ≤ p.1 ∧ p.1 ≤ 7) ∧ 0 ≤ p.2 ∧ p.2 ≤ 7 := by
 obtain ⟨x, y⟩ := p
 obtain ⟨_, a0, a1, a2, a3, _⟩ := hasB_iff.1 (mem_cells.1 h)
 simp only
 omega
theorem ix0 (w : World) : (Instr.index 107 (.agg #[.bool false, .bool true]) (.int .i64 0)).run Try.prog w = .ok (.bool false) w := by kernel_rfl
theorem ix1 (w : World) : (Instr.index 107 (.agg #[.bool false, .bool true]) (.int .i64 1)).run Try.prog w = .ok (.bool true) w := by kernel_rfl

set_option maxHeartbeats 4000000 in
theorem iCountsOf (w : World) (A : Option Addr) (n cap B : Nat) (xs : List Int) (hx : xs.length = n) (hn : (n : Int) ≤ 1048576) (h : RowB w B A xs) (hB : B ≤ w.heap.size) (hcap : A = none → n = 0 ∧ cap = 0) :
  Calls Try.prog 73 #[.agg #[.slice A n cap]] w (CoP xs w) := by
 have hmm := @run_makeMapD
 have HC := Lib.hid (fun W (hb : Below w.heap.size w W) => iCellsOf W A n cap B xs hx (by omega) (h.below hb hB) (by have := hb.size; omega))
 have HW := Lib.hid (fun W (hb : Below w.heap.size w W) x y b (h1 : Sm x) (h2 : Sm y) => show Calls Try.prog 54 #[.agg #[.slice A n cap], .agg #[.int .i64 x, .int .i64 y, .bool b]] W (Num (cW xs (x, y, b)) W) from iCountWith W A n cap B xs hx hn (h.below hb hB) (by have := hb.size; omega) hcap x y b h1 h2)
 have HBx := Lib.hid (Rg.new w (.slice A n cap))
 have HS0 := Lib.hid (fun (o : Obj) => below_alloc1 w o)
 have HLn := Lib.hid (cellsR_length xs)
 have HCs := Lib.hid (fun p (hp : p ∈ cellsR xs) => cells_small hp)
 have HK0 := Lib.hid (fun W => OwnD.made W (cW xs))
 have HYes := Lib.hid (fun j i (hj : j < (cellsR xs).length) (hi : i < 2) d hd (hp : 0 < cW xs d) => preL_yes (fun d => decide (0 < cW xs d)) (C := cellsR xs) (j := j) (i := i) hj hi (d := d) hd (decide_eq_true hp))
 have HNo := Lib.hid (fun j i (hj : j < (cellsR xs).length) (hi : i < 2) d hd (hp : ¬ 0 < cW xs d) => preL_no (fun d => decide (0 < cW xs d)) (C := cellsR xs) (j := j) (i := i) hj hi (d := d) hd (decide_eq_false hp))
 have HEnd := Lib.hid (show ∀ k, k = 2 * (cellsR xs).length → preL (fun d => decide (0 < cW xs d)) (cellsR xs) k = candP xs from fun k hk => preL_all _ hk)
 have HZ := Lib.hid (preL_zero (fun d => decide (0 < cW xs d)) (cellsR xs))
 have HWf := Lib.hid (fun d => cW_wf xs d)
 unfold CoP
 generalize preL (fun d => decide (0 < cW xs d)) (cellsR xs) = P at HYes HNo HEnd HZ
 generalize cW xs = c at HW HK0 HYes HNo HWf ⊢
 generalize candP xs = F at HEnd ⊢
 generalize cellsR xs = C at HC HLn HCs HYes HNo HEnd
 clear hx hn h hB hcap
 go_enter Try.func73, Try.ntmps73
 go_wp2_with fail
 have K0 := HK0.out (w.alloc (.cells #[.slice A n cap] 26))
 rw [World.size_alloc] at K0
 have B0 : Below w.heap.size w ((w.alloc (.cells #[.slice A n cap] 26)).alloc (.map #[] 0)) := (HS0.out _).alloc (by simp) _
 have R0 : Rg ((w.alloc (.cells #[.slice A n cap] 26)).alloc (.map #[] 0)) w.heap.size (.slice A n cap) := (Below.heap_alloc _ _ _ (by simp)).trans HBx.out
 refine (HC.out _ B0).mono ?_
 rintro e w1 ⟨A1, cap1, rfl, hown1, hb1⟩
 obtain ⟨b1, off1, hA1, hR1⟩ := rowC_own hown1
 have HM1 := Lib.hid (show CS w (.slice A n cap) b1 off1 C 0 (P 0) c w1 from ⟨B0.trans (hb1.mono B0.size), R0.on hb1, by rw [HZ.out]; exact K0.on hb1, ⟨fun h0 => (hA1 h0).2, hR1⟩⟩)
 have HA1 := Lib.hid (fun h0 => (hA1 h0).1)
 clear HC HBx HS0 HK0 hmm K0 B0 R0 hown1 hb1 hR1 hA1 HZ
 obtain ⟨N, hN⟩ : ∃ N, N = C.length := ⟨_, rfl⟩
 rw [← hN] at HLn HA1 HEnd ⊢
 have HN := Lib.hid hN
 clear hN
 go_wp2_with fail
 go_loopg [14] N (fun gg si wr => ∃ t : Nat, t + gg = N ∧ si = .int .i64 t ∧ Hid (CS w (.slice A n cap) b1 off1 C (2 * t) (P (2 * t)) c wr))
 case atStart => exact ⟨0, by omega, rfl, HM1⟩
 case round =>
  clear HM1
  obtain ⟨t, hgg, rfl, HS⟩ := hrel
  have hN64 := HLn.out
  by_cases hlt : t < N
  ·have hti : t < C.length := by rw [← HN.out]; exact hlt
   obtain rfl := HA1.out (by omega)
   obtain ⟨c0, c1⟩ := HS.out.rd.2 t C[t] (List.getElem?_eq_getElem hti)
   have HY := Lib.hid (fun i hi d hd hp => HYes.out t i hti hi d hd hp)
   have HO := Lib.hid (fun i hi d hd hp => HNo.out t i hti hi d hd hp)
   have hsm := HCs.out C[t] (List.getElem_mem hti)
   generalize C[t] = p at c0 c1 HY HO hsm
   obtain ⟨x, y⟩ := p
   simp only at c0 c1
   have hsm : (0 ≤ x ∧ x ≤ 7) ∧ 0 ≤ y ∧ y ≤ 7 := hsm
   obtain ⟨⟨s1, s2⟩, s3, s4⟩ := hsm
   have HSm := Lib.hid (show (Sm x ∧ Sm y) ∧ ∀ b, Kf (x, y, b) from ⟨⟨⟨by omega, by omega⟩, by omega, by omega⟩, fun b => show (Lit.int .i64 x).wf = true ∧ (Lit.int .i64 y).wf = true from ⟨WalkArith.wf_i64 (by omega), WalkArith.wf_i64 (by omega)⟩⟩)
   clear s1 s2 s3 s4
   have S2 := HS.out.on (below_alloc1 wr (.cells #[.int .i64 x, .int .i64 y] 38))
   have Z2 := At2.new wr x y
   have htN : (t : Int) < (N : Int) := by omega
   go_upto_region 5 with fail
   generalize wr.alloc (.cells #[.int .i64 x, .int .i64 y] 38) = W2 at S2 Z2 ⊢
   generalize wr.heap.size = zb at Z2 ⊢
   have HS2 := Lib.hid S2
   have HZ2 := Lib.hid Z2
   clear c0 c1 HS S2 Z2
   go_wp2_with fail
   go_loopg [19] 2 (fun gi si wr2 => ∃ i : Nat, i + gi = 2 ∧ si = .int .i64 i ∧ Hid (CS w (.slice A n cap) b1 off1 C (2 * t + i) (P (2 * t + i)) c wr2) ∧ Hid (At2 wr2 zb x y))
   case atStart => exact ⟨0, by omega, rfl, HS2, HZ2⟩
   case round =>
    clear HS2 HZ2
    obtain ⟨i, hgi, rfl, HS, HZ⟩ := hrel
    by_cases hi2 : i < 2
    ·obtain rfl | rfl : i = 0 ∨ i = 1 := by omega
     ·have q0 := ix0
      have d0 := HZ.out.c0
      have d1 := HZ.out.c1
      have HWc := Lib.hid (fun W hb => HW.out W hb x y false HSm.out.1.1 HSm.out.1.2)
      have HYc := Lib.hid (fun hp => HY.out 0 (by omega) (x, y, false) rfl hp)
      have HOc := Lib.hid (fun hp => HO.out 0 (by omega) (x, y, false) rfl hp)
      have HWfc := Lib.hid (HWf.out (x, y, false))
      have S3 := HS.out.on (below_alloc1 wr (.cells #[.int .i64 x, .int .i64 y, .bool false] 41))
      have Z3 := HZ.out.on (below_alloc1 wr (.cells #[.int .i64 x, .int .i64 y, .bool false] 41))
      have D3 := At3.new 41 wr x y false
      go_upto_region 9 with fail
      generalize wr.alloc (.cells #[.int .i64 x, .int .i64 y, .bool false] 41) = W3 at S3 Z3 D3 ⊢
      generalize wr.heap.size = pd at D3 ⊢
      clear d0 d1 HS HZ q0
      have r0 := S3.box.c0
      have e0 := D3.c0
      have e1 := D3.c1
      have e2 := D3.c2
      go_wp2_with fail
      refine (HWc.out _ S3.bel).mono ?_
      rintro e w4 ⟨rfl, hb4⟩
      have S4 := S3.on hb4
      have HZ4 := Lib.hid (Z3.on hb4)
      have D4 := D3.on hb4
      clear S3 Z3 D3 r0 e0 e1 e2 hb4 HWc
      obtain ⟨q, hq⟩ : ∃ q, q = c (x, y, false) := ⟨_, rfl⟩
      rw [← hq]
      have HQ := Lib.hid hq
      rw [← hq] at HYc HOc HWfc
      clear hq
      by_cases hp : 0 < q
      ·have e0 := D4.c0
       have e1 := D4.c1
       have e2 := D4.c2
       go_wp2_with (first
        | (at_mapUpdate; refine store_d _ rfl _ _ _ rfl (w.heap.size + 1) (2 * t + 0) (P (2 * t + 0)) c (x, y, false) (by omega) rfl rfl (by rw [← HQ.out]; rfl) (HSm.out.2 false) (by rw [← HQ.out]; exact HWfc.out) S4.own ?_; intro w5 own5 turn5)
        | fail)
       have S5 := Lib.hid (S4.put own5 turn5)
       have HZ5 := Lib.hid (show At2 w5 zb x y from ((turned_grown turn5).block _ HZ4.out.lt (by
        intro e; injection e with e
        obtain ⟨es, clock, hbm⟩ := S4.own.obj
        have := HZ4.out.c0
        rw [e] at this
        simp [World.cell?, hbm] at this)).trans HZ4.out)
       clear S4 HZ4 D4 e0 e1 e2 own5 turn5
       go_wp2
       go_roundg (2 - (0 + 1))
       case measure => omega
       case rel => exact ⟨1, by omega, by go_num, by rw [HYc.out hp]; exact S5, HZ5⟩
      ·have HS4 := Lib.hid (S4.up (Nat.le_succ _))
       clear S4 D4
       go_wp2
       go_roundg (2 - (0 + 1))
       case measure => omega
       case rel => exact ⟨1, by omega, by go_num, by rw [HOc.out hp]; exact HS4, HZ4⟩
     ·have q0 := ix1
      have d0 := HZ.out.c0
      have d1 := HZ.out.c1
      have HWc := Lib.hid (fun W hb => HW.out W hb x y true HSm.out.1.1 HSm.out.1.2)
      have HYc := Lib.hid (fun hp => HY.out 1 (by omega) (x, y, true) rfl hp)
      have HOc := Lib.hid (fun hp => HO.out 1 (by omega) (x, y, true) rfl hp)
      have HWfc := Lib.hid (HWf.out (x, y, true))
      have S3 := HS.out.on (below_alloc1 wr (.cells #[.int .i64 x, .int .i64 y, .bool true] 41))
      have Z3 := HZ.out.on (below_alloc1 wr (.cells #[.int .i64 x, .int .i64 y, .bool true] 41))
      have D3 := At3.new 41 wr x y true
      go_upto_region 9 with fail
      generalize wr.alloc (.cells #[.int .i64 x, .int .i64 y, .bool true] 41) = W3 at S3 Z3 D3 ⊢
      generalize wr.heap.size = pd at D3 ⊢
      clear d0 d1 HS HZ q0
      have r0 := S3.box.c0
      have e0 := D3.c0
      have e1 := D3.c1
      have e2 := D3.c2
      go_wp2_with fail
      refine (HWc.out _ S3.bel).mono ?_
      rintro e w4 ⟨rfl, hb4⟩
      have S4 := S3.on hb4
      have HZ4 := Lib.hid (Z3.on hb4)
      have D4 := D3.on hb4
      clear S3 Z3 D3 r0 e0 e1 e2 hb4 HWc
      obtain ⟨q, hq⟩ : ∃ q, q = c (x, y, true) := ⟨_, rfl⟩
      rw [← hq]
      have HQ := Lib.hid hq
      rw [← hq] at HYc HOc HWfc
      clear hq
      by_cases hp : 0 < q
      ·have e0 := D4.c0
       have e1 := D4.c1
       have e2 := D4.c2
       go_wp2_with (first
        | (at_mapUpdate; refine store_d _ rfl _ _ _ rfl (w.heap.size + 1) (2 * t + 1) (P (2 * t + 1)) c (x, y, true) (by omega) rfl rfl (by rw [← HQ.out]; rfl) (HSm.out.2 true) (by rw [← HQ.out]; exact HWfc.out) S4.own ?_; intro w5 own5 turn5)
        | fail)
       have S5 := Lib.hid (S4.put own5 turn5)
       have HZ5 := Lib.hid (show At2 w5 zb x y from ((turned_grown turn5).block _ HZ4.out.lt (by
        intro e; injection e with e
        obtain ⟨es, clock, hbm⟩ := S4.own.obj
        have := HZ4.out.c0
        rw [e] at this
        simp [World.cell?, hbm] at this)).trans HZ4.out)
       clear S4 HZ4 D4 e0 e1 e2 own5 turn5
       go_wp2
       go_roundg (2 - (1 + 1))
       case measure => omega
       case rel => exact ⟨2, by omega, by go_num, by rw [HYc.out hp]; exact S5, HZ5⟩
      ·have HS4 := Lib.hid (S4.up (Nat.le_succ _))
       clear S4 D4
       go_wp2
       go_roundg (2 - (1 + 1))
       case measure => omega
       case rel => exact ⟨2, by omega, by go_num, by rw [HOc.out hp]; exact HS4, HZ4⟩
    ·obtain rfl : 2 = i := by omega
     clear HZ
     go_wp2
     go_roundg (N - (t + 1))
     case measure => omega
     case rel => exact ⟨t + 1, by omega, by go_num, HS⟩
  ·obtain rfl : N = t := by omega
   have HE := Lib.hid (HEnd.out (2 * N) rfl)
   go_wp2
   go_ret
   exact ⟨_, rfl, by have := (HS.out.own.up (show 2 * N ≤ 128 by omega)); rw [HE.out] at this; exact this, Nat.le_succ _, HS.out.bel⟩
end Go.Proofs.Ytjfagpmklifjlaa.Frd
