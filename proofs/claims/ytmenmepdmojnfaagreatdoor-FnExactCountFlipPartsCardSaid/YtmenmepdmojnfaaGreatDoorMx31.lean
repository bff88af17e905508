/- PrA, Kin, Clo in one text. -/
import Derived.Test.YtmenmepdmojnfaaGreatDoorMx30
import Derived.Test.YtmenmepdmojnfaaGreatDoorMx20
import Derived.Test.YtmenmepdmojnfaaGreatDoorMx26
import Derived.Test.YtmenmepdmojnfaaGreatDoorMx01
import Derived.Test.YtmenmepdmojnfaaGreatDoorMx25

namespace Go.Proofs.YtmenmepdmojnfaaGreatDoor.Flp
set_option linter.unusedVariables false
set_option linter.unusedSimpArgs false
set_option maxRecDepth 100000
open Go.RowKit Go.Proofs.YtmenmepdmojnfaaGreatDoor.Cell Go.Proofs.YtmenmepdmojnfaaGreatDoor.Dom Go.Proofs.YtmenmepdmojnfaaGreatDoor.Dms Go.Proofs.YtmenmepdmojnfaaGreatDoor.Til Go.Joins

def pw2 (x y : Int) (b : Bool) : Dm := if b then (wrap64 (x + 1), y, true) else (x, wrap64 (y + 1), false)
abbrev arV (d f : Dm) : Value := .agg #[.int .i64 d.1, .int .i64 d.2.1, .bool d.2.2, .int .i64 f.1, .int .i64 f.2.1, .bool f.2.2]
def ArP (d f : Dm) (w : World) (e : Ending) (w' : World) : Prop := e = .returned (arV d f) ∧ Below w.heap.size w w'
def fnN (b : Bool) : Nat := if b then 136 else 135
def fnV (b : Bool) : Value := .func (.func (fnN b)) #[] #[]
set_option maxHeartbeats 1000000 in
theorem iAcross (x y : Int) (w : World) : Calls Tryz.prog 135 #[.agg #[.int .i64 x, .int .i64 y]] w (ArP (x, y, false) (x, wrap64 (y + 1), false) w) := by
 go_enter Tryz.func135, Tryz.ntmps135
 go_wp2
 exact bodyPost_ret (v := arV (x, y, false) (x, wrap64 (y + 1), false)) (by simp [results, Tryz.results135, go_sem]) rfl ⟨rfl, below_alloc2 _ _ _⟩
set_option maxHeartbeats 1000000 in
theorem iDown (x y : Int) (w : World) : Calls Tryz.prog 136 #[.agg #[.int .i64 x, .int .i64 y]] w (ArP (x, y, true) (wrap64 (x + 1), y, true) w) := by
 go_enter Tryz.func136, Tryz.ntmps136
 go_wp2
 exact bodyPost_ret (v := arV (x, y, true) (wrap64 (x + 1), y, true)) (by simp [results, Tryz.results136, go_sem]) rfl ⟨rfl, below_alloc2 _ _ _⟩
theorem iPair (x y : Int) (b : Bool) (w : World) : Calls Tryz.prog (fnN b) #[.agg #[.int .i64 x, .int .i64 y]] w (ArP (pr1 x y b) (pw2 x y b) w) := by
 cases b
 ·exact iAcross x y w
 ·exact iDown x y w
def liB (L : List Dm) (x y : Int) (b : Bool) : Bool := in6 x y && has2 L x y b
theorem li_is (L : List Dm) (x y : Int) (b : Bool) : liB L x y b = ((okM (pr1 x y b) && decide (pr1 x y b ∈ L)) && (okM (pw2 x y b) && decide (pw2 x y b ∈ L))) := by
 unfold liB
 by_cases h6 : in6 x y = true
 ·have h := in6_iff.1 h6
  have e : pw2 x y b = pr2 x y b := by
   unfold pw2 pr2
   rw [wrap_in (x := x) (by omega) (by omega), wrap_in (x := y) (by omega) (by omega)]
  rw [e, h6, ok1 h b, ok2 h b]; rfl
 ·have h0 : in6 x y = false := Bool.eq_false_iff.2 h6
  rw [h0]
  have key : ¬ (okM (pr1 x y b) = true ∧ okM (pw2 x y b) = true) := by
   rintro ⟨o1, o2⟩
   apply h6
   unfold okM domB at o1 o2
   rw [Bool.and_eq_true, okB_iff, okB_iff] at o1 o2
   obtain ⟨⟨a0, a1, a2, a3⟩, ⟨b0, b1, b2, b3⟩⟩ := o1
   obtain ⟨⟨c0, c1, c2, c3⟩, _⟩ := o2
   rw [in6_iff]
   simp only [pr1, sx, sy] at a0 a1 a2 a3 b0 b1 b2 b3
   unfold pw2 at c0 c1 c2 c3
   cases b with
   | true =>
    simp only [if_true] at *
    rw [wrap_in (x := x) a0 a1] at c0 c1
    rw [wrap_in (x := y) a2 a3] at b2 b3
    omega
   | false =>
    simp only [Bool.false_eq_true, if_false] at *
    rw [wrap_in (x := x) a0 a1] at b0 b1
    rw [wrap_in (x := y) a2 a3] at c2 c3
    omega
  cases o1 : okM (pr1 x y b) <;> cases o2 : okM (pw2 x y b) <;> simp
  exact absurd ⟨o1, o2⟩ key
theorem arAt (d f : Dm) (k : Nat) (h : k < 2) (W : World) : (Instr.index 137 (arV d f) (.int .i64 (k : Int))).run Tryz.prog W = .ok (dmV (if k = 0 then d else f)) W := by
 have h0 : (Instr.index 137 (arV d f) (.int .i64 0)).run Tryz.prog W = .ok (dmV d) W := by kernel_rfl
 have h1 : (Instr.index 137 (arV d f) (.int .i64 1)).run Tryz.prog W = .ok (dmV f) W := by kernel_rfl
 obtain rfl | rfl : k = 0 ∨ k = 1 := by omega
 ·exact h0
 ·exact h1
def goodD (L : List Dm) (d : Dm) : Bool := okM d && decide (d ∈ L)
def LiI (w : World) (L : List Dm) (d f : Dm) (k : Nat) : Prop := (0 < k → goodD L d = true) ∧ (1 < k → goodD L f = true)
theorem LiI.zero (w : World) (L : List Dm) (d f : Dm) : LiI w L d f 0 := ⟨fun h => by omega, fun h => by omega⟩
theorem LiI.step {w : World} {L : List Dm} {d f : Dm} {k : Nat} (h : LiI w L d f k) (hk : k < 2) (hg : goodD L (if k = 0 then d else f) = true) : LiI w L d f (k + 1) := by
 obtain rfl | rfl : k = 0 ∨ k = 1 := by omega
 ·exact ⟨fun _ => hg, fun h => by omega⟩
 ·exact ⟨fun _ => h.1 (by omega), fun _ => hg⟩
theorem li_no {L : List Dm} {x y : Int} {b : Bool} {k : Nat} (hk : k < 2) (hg : goodD L (if k = 0 then pr1 x y b else pw2 x y b) = false) : liB L x y b = false := by
 rw [li_is]
 obtain rfl | rfl : k = 0 ∨ k = 1 := by omega
 ·have : goodD L (pr1 x y b) = false := hg
  unfold goodD at this; rw [this]; rfl
 ·have : goodD L (pw2 x y b) = false := hg
  unfold goodD at this; rw [this, Bool.and_false]
theorem li_yes {w : World} {L : List Dm} {x y : Int} {b : Bool} (h : LiI w L (pr1 x y b) (pw2 x y b) 2) : liB L x y b = true := by
 rw [li_is]
 have h1 := h.1 (by omega)
 have h2 := h.2 (by omega)
 unfold goodD at h1 h2
 rw [h1, h2]; rfl
set_option maxHeartbeats 2000000 in
theorem iLies (w : World) (A : Option Addr) (n cap B : Nat) (L : List Dm) (hL : L.length = n) (hn : (n : Int) ≤ 9223372036854775807) (h : RowM w B A L) (hB : B ≤ w.heap.size) (x y : Int) (b : Bool) :
  Calls Tryz.prog 137 #[fnV b, .slice A n cap, .agg #[.int .i64 x, .int .i64 y]] w (Bol (liB L x y b) w) := by
 have HP := Lib.hid (fun W => iPair x y b W)
 have HOk := Lib.hid (fun (d : Dm) W => iDominoOkW d.1 d.2.1 d.2.2 W)
 have HCt := Lib.hid (fun W (hb : Below w.heap.size w W) d => iContains W A n cap B L hL hn (h.below hb hB) (by have := hb.size; omega) d)
 have HNo := Lib.hid (fun k (hk : k < 2) hg => li_no (L := L) (x := x) (y := y) (b := b) (k := k) hk hg)
 have HYes := Lib.hid (fun h => li_yes (w := w) (L := L) (x := x) (y := y) (b := b) h)
 have T0 := Lib.hid (cb_start x y w)
 have HG := Lib.hid (fun d => show goodD L d = (domB d.1 d.2.1 d.2.2 && decide (d ∈ L)) from rfl)
 generalize liB L x y b = r at HNo HYes ⊢
 generalize pr1 x y b = d at HP HNo HYes
 generalize pw2 x y b = f at HP HNo HYes
 clear hL hn h hB
 have key : ∀ fn : Nat, fn = fnN b → (fn = 136 ∨ fn = 135) → Calls Tryz.prog 137 #[.func (.func fn) #[] #[], .slice A n cap, .agg #[.int .i64 x, .int .i64 y]] w (Bol r w) := by
  intro fn hfn hor
  rw [← hfn] at HP
  clear hfn
  rcases hor with rfl | rfl
  ·go_enter Tryz.func137, Tryz.ntmps137
   go_wp2_with fail
   have c0 := T0.out.2.c0
   have c1 := T0.out.2.c1
   refine (HP.out _).mono ?_
   rintro e w1 ⟨rfl, hb1⟩
   have T1 := Lib.hid (T0.out.on hb1)
   clear T0 hb1 c0 c1 HP
   go_wp2_with fail
   go_loopw [8, 12] (fun _ i wr => ∃ k : Nat, k ≤ 2 ∧ i = .int .i64 k ∧ Below w.heap.size w wr ∧ Hid (LiI w L d f k)) (fun _ i _ => 2 - (intOf i).toNat)
   case atStart => exact ⟨0, by omega, rfl, T1.out.1, Lib.hid (LiI.zero _ _ _ _)⟩
   case round =>
    clear T1
    obtain ⟨k, hk, rfl, hb, HI⟩ := hrel
    by_cases hlt : k < 2
    ·have hix := fun W => arAt d f k hlt W
     have HS := Lib.hid (fun hg => HI.out.step hlt hg)
     have HN := Lib.hid (fun hg => HNo.out k hlt hg)
     have hk2 : (k : Int) < 2 := by omega
     generalize (if k = 0 then d else f) = p at hix HS HN
     have HOp := Lib.hid (fun W => HOk.out p W)
     have HCp := Lib.hid (fun W hb => HCt.out W hb p)
     have HGp := Lib.hid (HG.out p)
     generalize domB p.1 p.2.1 p.2.2 = ok at HOp HGp
     generalize decide (p ∈ L) = isin at HCp HGp
     obtain ⟨u, v, a⟩ := p
     have HB := Lib.hid (hb.alloc hb.size (.cells #[.int .i64 u, .int .i64 v, .bool a] 73))
     have KB := Lib.hid (At3.new 73 wr u v a)
     clear hb HI HNo HOk HCt HG
     go_wp2_with fail
     generalize wr.alloc (.cells #[.int .i64 u, .int .i64 v, .bool a] 73) = W1 at HB KB ⊢
     refine (HOp.out _).mono ?_
     rintro e w2 ⟨rfl, hb2⟩
     have HB2 := Lib.hid (HB.out.trans (hb2.mono HB.out.size))
     have KB2 := Lib.hid (At3.on KB.out hb2)
     clear hb2 HB KB HOp
     have c0 := At3.c0 KB2.out
     have c1 := At3.c1 KB2.out
     have c2 := At3.c2 KB2.out
     cases ok with
     | false =>
      go_wp2
      go_ret
      exact mkBol (HN.out (by rw [HGp.out]; rfl)).symm HB2.out
     | true =>
      go_wp2_with fail
      refine (HCp.out _ HB2.out).mono ?_
      rintro e w3 ⟨rfl, hb3⟩
      have HB3 := Lib.hid (HB2.out.trans (hb3.mono HB2.out.size))
      clear hb3 c0 c1 c2 HCp
      cases isin with
      | false =>
       go_wp2
       go_ret
       exact mkBol (HN.out (by rw [HGp.out]; rfl)).symm HB3.out
      | true =>
       go_wp2
       go_roundw
       case rel => exact ⟨k + 1, by omega, by go_num, HB3.out, Lib.hid (HS.out (by rw [HGp.out]; rfl))⟩
       case measure => (simp [intOf] <;> omega)
    ·obtain rfl : k = 2 := by omega
     have HY := Lib.hid (HYes.out HI.out)
     have HB := Lib.hid hb
     clear hb HI
     go_wp2
     go_ret
     exact mkBol HY.out.symm HB.out
  ·go_enter Tryz.func137, Tryz.ntmps137
   go_wp2_with fail
   have c0 := T0.out.2.c0
   have c1 := T0.out.2.c1
   refine (HP.out _).mono ?_
   rintro e w1 ⟨rfl, hb1⟩
   have T1 := Lib.hid (T0.out.on hb1)
   clear T0 hb1 c0 c1 HP
   go_wp2_with fail
   go_loopw [8, 12] (fun _ i wr => ∃ k : Nat, k ≤ 2 ∧ i = .int .i64 k ∧ Below w.heap.size w wr ∧ Hid (LiI w L d f k)) (fun _ i _ => 2 - (intOf i).toNat)
   case atStart => exact ⟨0, by omega, rfl, T1.out.1, Lib.hid (LiI.zero _ _ _ _)⟩
   case round =>
    clear T1
    obtain ⟨k, hk, rfl, hb, HI⟩ := hrel
    by_cases hlt : k < 2
    ·have hix := fun W => arAt d f k hlt W
     have HS := Lib.hid (fun hg => HI.out.step hlt hg)
     have HN := Lib.hid (fun hg => HNo.out k hlt hg)
     have hk2 : (k : Int) < 2 := by omega
     generalize (if k = 0 then d else f) = p at hix HS HN
     have HOp := Lib.hid (fun W => HOk.out p W)
     have HCp := Lib.hid (fun W hb => HCt.out W hb p)
     have HGp := Lib.hid (HG.out p)
     generalize domB p.1 p.2.1 p.2.2 = ok at HOp HGp
     generalize decide (p ∈ L) = isin at HCp HGp
     obtain ⟨u, v, a⟩ := p
     have HB := Lib.hid (hb.alloc hb.size (.cells #[.int .i64 u, .int .i64 v, .bool a] 73))
     have KB := Lib.hid (At3.new 73 wr u v a)
     clear hb HI HNo HOk HCt HG
     go_wp2_with fail
     generalize wr.alloc (.cells #[.int .i64 u, .int .i64 v, .bool a] 73) = W1 at HB KB ⊢
     refine (HOp.out _).mono ?_
     rintro e w2 ⟨rfl, hb2⟩
     have HB2 := Lib.hid (HB.out.trans (hb2.mono HB.out.size))
     have KB2 := Lib.hid (At3.on KB.out hb2)
     clear hb2 HB KB HOp
     have c0 := At3.c0 KB2.out
     have c1 := At3.c1 KB2.out
     have c2 := At3.c2 KB2.out
     cases ok with
     | false =>
      go_wp2
      go_ret
      exact mkBol (HN.out (by rw [HGp.out]; rfl)).symm HB2.out
     | true =>
      go_wp2_with fail
      refine (HCp.out _ HB2.out).mono ?_
      rintro e w3 ⟨rfl, hb3⟩
      have HB3 := Lib.hid (HB2.out.trans (hb3.mono HB2.out.size))
      clear hb3 c0 c1 c2 HCp
      cases isin with
      | false =>
       go_wp2
       go_ret
       exact mkBol (HN.out (by rw [HGp.out]; rfl)).symm HB3.out
      | true =>
       go_wp2
       go_roundw
       case rel => exact ⟨k + 1, by omega, by go_num, HB3.out, Lib.hid (HS.out (by rw [HGp.out]; rfl))⟩
       case measure => (simp [intOf] <;> omega)
    ·obtain rfl : k = 2 := by omega
     have HY := Lib.hid (HYes.out HI.out)
     have HB := Lib.hid hb
     clear hb HI
     go_wp2
     go_ret
     exact mkBol HY.out.symm HB.out
 refine key (fnN b) rfl ?_
 cases b
 ·exact .inr rfl
 ·exact .inl rfl
end Go.Proofs.YtmenmepdmojnfaaGreatDoor.Flp

namespace Go.Proofs.YtmenmepdmojnfaaGreatDoor.Flp
set_option linter.unusedVariables false
set_option linter.unusedSimpArgs false
set_option maxRecDepth 100000
open Go.RowKit Go.Proofs.YtmenmepdmojnfaaGreatDoor.Base Go.Proofs.YtmenmepdmojnfaaGreatDoor.Cell Go.Proofs.YtmenmepdmojnfaaGreatDoor.CellF Go.Proofs.YtmenmepdmojnfaaGreatDoor.Cels Go.Proofs.YtmenmepdmojnfaaGreatDoor.Dom Go.Proofs.YtmenmepdmojnfaaGreatDoor.Dms Go.Joins
open Go.Proofs.YtmenmepdmojnfaaGreatDoor.Reg (at_nat own_below own_base)

theorem kind_li (L : List Dm) (x y : Int) : kindN L x y = if liB L x y false then 1 else if liB L x y true then 2 else 0 := by
 unfold kindN liB
 cases in6 x y <;> simp
def kdV (k : Nat) : Value := if k = 1 then .tuple #[fnV false, fnV true, .bool true] else if k = 2 then .tuple #[fnV true, fnV false, .bool true] else .tuple #[.nilFunc, .nilFunc, .bool false]
def KdP (k : Nat) (w : World) (e : Ending) (w' : World) : Prop := e = .returned (kdV k) ∧ Below w.heap.size w w'
set_option maxHeartbeats 1000000 in
theorem iKinds (w : World) (A : Option Addr) (n cap B : Nat) (L : List Dm) (hL : L.length = n) (hn : (n : Int) ≤ 9223372036854775807) (h : RowM w B A L) (hB : B ≤ w.heap.size) (x y : Int) :
  Calls Tryz.prog 107 #[.slice A n cap, .agg #[.int .i64 x, .int .i64 y]] w (KdP (kindN L x y) w) := by
 have HLi := Lib.hid (fun W (hb : Below w.heap.size w W) b => iLies W A n cap B L hL hn (h.below hb hB) (by have := hb.size; omega) x y b)
 have HK := Lib.hid (kind_li L x y)
 have T0 := Lib.hid (cb_start x y w)
 have H1 := Lib.hid (fun W hb => HLi.out W hb false)
 have H2 := Lib.hid (fun W hb => HLi.out W hb true)
 clear HLi hL hn h hB
 generalize kindN L x y = k at HK ⊢
 generalize liB L x y false = p at H1 HK
 generalize liB L x y true = q at H2 HK
 unfold fnV fnN at H1 H2
 go_enter Tryz.func107, Tryz.ntmps107
 go_wp2_with fail
 have c0 := T0.out.2.c0
 have c1 := T0.out.2.c1
 refine (H1.out _ T0.out.1).mono ?_
 rintro e w1 ⟨rfl, hb1⟩
 have T1 := Lib.hid (T0.out.on hb1)
 clear T0 hb1 c0 c1 H1
 cases p with
 | true =>
  have HE := Lib.hid (show k = 1 by rw [HK.out]; rfl)
  go_wp2
  exact bodyPost_ret (v := .tuple #[fnV false, fnV true, .bool true]) (by simp [results, Tryz.results107, go_sem, fnV, fnN]) rfl ⟨by rw [HE.out]; rfl, T1.out.1⟩
 | false =>
  have c0 := T1.out.2.c0
  have c1 := T1.out.2.c1
  go_wp2_with fail
  refine (H2.out _ T1.out.1).mono ?_
  rintro e w2 ⟨rfl, hb2⟩
  have T2 := Lib.hid (T1.out.on hb2)
  clear T1 hb2 c0 c1 H2
  cases q with
  | true =>
   have HE := Lib.hid (show k = 2 by rw [HK.out]; rfl)
   go_wp2
   exact bodyPost_ret (v := .tuple #[fnV true, fnV false, .bool true]) (by simp [results, Tryz.results107, go_sem, fnV, fnN]) rfl ⟨by rw [HE.out]; rfl, T2.out.1⟩
  | false =>
   have HE := Lib.hid (show k = 0 by rw [HK.out]; rfl)
   go_wp2
   exact bodyPost_ret (v := .tuple #[.nilFunc, .nilFunc, .bool false]) (by simp [results, Tryz.results107, go_sem]) rfl ⟨by rw [HE.out]; rfl, T2.out.1⟩
theorem kd_shape {k : Nat} (h : k ≤ 2) : ∃ f g : Value, kdV k = .tuple #[f, g, .bool (decide (0 < k))] := by
 obtain rfl | rfl | rfl : k = 0 ∨ k = 1 ∨ k = 2 := by omega
 ·exact ⟨_, _, rfl⟩
 ·exact ⟨_, _, rfl⟩
 ·exact ⟨_, _, rfl⟩
set_option maxHeartbeats 1000000 in
theorem iCanFlip (w : World) (A : Option Addr) (n cap B : Nat) (L : List Dm) (hL : L.length = n) (hn : (n : Int) ≤ 9223372036854775807) (h : RowM w B A L) (hB : B ≤ w.heap.size) (x y : Int) :
  Calls Tryz.prog 106 #[.slice A n cap, .agg #[.int .i64 x, .int .i64 y]] w (Bol (canB L x y) w) := by
 have HK := Lib.hid (fun W (hb : Below w.heap.size w W) => iKinds W A n cap B L hL hn (h.below hb hB) (by have := hb.size; omega) x y)
 have T0 := Lib.hid (cb_start x y w)
 have HC := Lib.hid (show canB L x y = decide (0 < kindN L x y) from rfl)
 have hk := kind_le L x y
 generalize canB L x y = c at HC ⊢
 generalize kindN L x y = k at HK HC hk
 obtain ⟨f, g, e⟩ := kd_shape hk
 unfold KdP at HK
 rw [e, ← HC.out] at HK
 clear hL hn h hB hk e HC
 go_enter Tryz.func106, Tryz.ntmps106
 go_wp2_with fail
 have c0 := T0.out.2.c0
 have c1 := T0.out.2.c1
 refine (HK.out _ T0.out.1).mono ?_
 rintro e w1 ⟨rfl, hb1⟩
 have T1 := Lib.hid (T0.out.on hb1)
 clear T0 hb1 c0 c1 HK
 go_wp2
 go_ret
 exact mkBol rfl T1.out.1

set_option maxHeartbeats 2000000 in
theorem iFlipsOf (w : World) (A : Option Addr) (n cap B : Nat) (L : List Dm) (hL : L.length = n) (hn : (n : Int) ≤ 9223372036854775807) (h : RowM w B A L) (hB : B ≤ w.heap.size) :
  Calls Tryz.prog 80 #[.slice A n cap] w (NbPost (flipsR L) w) := by
 obtain ⟨i0, hi, hz0, hz1, hz2⟩ := info_parts cellInfo
 have HM := Lib.hid (World.ownsRow_nil w w.heap.size 67 2)
 have HKd := Lib.hid (fun W (hb : Below w.heap.size w W) x y => iCanFlip W A n cap B L hL hn (h.below hb hB) (by have := hb.size; omega) x y)
 clear hL h hB
 go_enter Tryz.func80, Tryz.ntmps80
 go_wp2_with fail
 go_loopw [3, 7] (fun v i wr => ∃ k : Nat, k ≤ 64 ∧ i = .int .i64 k ∧ wr.ownsRow w.heap.size 67 2 v (flipsTo L k).length (rowC (flipsTo L k)) ∧ Below w.heap.size w wr) (fun _ i _ => 64 - (intOf i).toNat)
 case atStart => exact ⟨0, Nat.zero_le _, rfl, by simpa [flipsTo, rowC] using HM.out, Below.refl _ _⟩
 case round =>
  clear HM
  obtain ⟨k, hk, rfl, hown, hb⟩ := hrel
  have hbs := hb.size
  by_cases hlt : k < 64
  ·go_wp2_with fail
   refine (iCellAt k _).mono ?_
   rintro e w1 ⟨rfl, hb1⟩
   have hown1 := own_below hown hb1 (Nat.le_refl _)
   have hbb := hb.trans (hb1.mono hbs)
   have hb1s := hbb.size
   have HOwn := Lib.hid hown1
   have HBB := Lib.hid hbb
   obtain ⟨hax, hay⟩ := at_nat hlt
   rw [hax, hay]
   have HKx := Lib.hid (HKd.out _ (hbb.alloc hbb.size (.cells #[.int .i64 ((k % 8 : Nat) : Int), .int .i64 ((k / 8 : Nat) : Int)] 67)) ((k % 8 : Nat) : Int) ((k / 8 : Nat) : Int))
   have hn' : canB L ((k % 8 : Nat) : Int) ((k / 8 : Nat) : Int) = true ∧ flipsTo L (k + 1) = flipsTo L k ++ [(((k % 8 : Nat) : Int), ((k / 8 : Nat) : Int))] ∨ canB L ((k % 8 : Nat) : Int) ((k / 8 : Nat) : Int) = false ∧ flipsTo L (k + 1) = flipsTo L k := by
    cases h0 : canB L ((k % 8 : Nat) : Int) ((k / 8 : Nat) : Int) with
    | false => exact .inr ⟨rfl, flipsTo_no h0⟩
    | true => exact .inl ⟨rfl, flipsTo_yes h0⟩
   have HN' := Lib.hid hn'
   clear hown hb hb1 hown1 hbb hbs hax hay hn'
   generalize canB L ((k % 8 : Nat) : Int) ((k / 8 : Nat) : Int) = kk at HKx HN'
   generalize ((k % 8 : Nat) : Int) = u at HKx HN' ⊢
   generalize ((k / 8 : Nat) : Int) = v' at HKx HN' ⊢
   go_wp2_with fail
   refine HKx.out.mono ?_
   rintro e w2 ⟨rfl, hb2⟩
   clear HKx
   have hcc : w2.cell? ⟨w1.heap.size, 0, none⟩ = some (.int .i64 u) ∧ w2.cell? ⟨w1.heap.size, 1, none⟩ = some (.int .i64 v') := by
    have hbl := heap_alloc_new w1 (.cells #[.int .i64 u, .int .i64 v'] 67)
    exact ⟨(hb2.cell (by simp)).trans ((cell_of_row _ _ 0 _ _ _ hbl).trans rfl), (hb2.cell (by simp)).trans ((cell_of_row _ _ 1 _ _ _ hbl).trans rfl)⟩
   obtain ⟨hc2, hc3⟩ := hcc
   have hD : Below w.heap.size w w2 := (HBB.out.alloc hb1s _).trans (hb2.mono (by simp; omega))
   have hE : Below w1.heap.size w1 w2 := (below_alloc1 w1 _).trans (hb2.mono (by simp))
   have HOwn2 := Lib.hid (own_below HOwn.out hE (Nat.le_refl _))
   have hzz : w1.heap.size < w2.heap.size := by have := hb2.size; simp at this; omega
   have HD := Lib.hid hD
   clear hD hE hb2
   rcases HN'.out with ⟨rfl, hN⟩ | ⟨rfl, hN⟩
   ·have HN := Lib.hid hN
    clear hN HN'
    have HL := Lib.hid (flipsTo_length L k)
    go_wp2_with (first
     | (at_builtin; refine wpList_append_own _ rfl _ _ 31 rfl w.heap.size 67 i0 (.agg #[.int .i64 0, .int .i64 0]) 2 16 Tryz.underlying31 hi hz0 hz1 hz2 rfl (by decide) _ (flipsTo L k).length (rowC (flipsTo L k)) rfl (HOwn2.out.alloc _) ⟨w2.heap.size, 0, none⟩ 1 1 [.int .i64 u, .int .i64 v'] rfl rfl (World.news_of_block (cs := #[.int .i64 u, .int .i64 v']) (t := 67) (fr := (0, 0)) (heap_alloc_new w2 _)) (by simp [Value.oneCell']) (by have := HL.out; unfold maxLen; omega) (by have := HL.out; omega) (by simp; omega) ?_; intro v2 w3 hown3 hgrow _))
    have hb3 : Below w.heap.size w w3 := (HD.out.alloc (by omega) _).grown hgrow (by simp; omega) (fun g hg => (HOwn2.out.lt g hg).1)
    have R := Lib.hid (show w3.ownsRow w.heap.size 67 2 v2 (flipsTo L (k + 1)).length (rowC (flipsTo L (k + 1))) by
     rw [HN.out, rowC_snoc, List.length_append]; exact hown3)
    clear hown3 hgrow
    go_wp2
    go_roundw
    case rel => exact ⟨k + 1, by omega, by go_num, R.out, hb3⟩
    case measure => (simp [intOf] <;> omega)
   ·have HN := Lib.hid hN
    clear hN HN'
    go_wp2
    go_roundw
    case rel => exact ⟨k + 1, by omega, by go_num, by rw [HN.out]; exact HOwn2.out, HD.out⟩
    case measure => (simp [intOf] <;> omega)
  ·obtain rfl : k = 64 := by omega
   obtain ⟨A, cap, rfl⟩ := own_shape hown
   rw [flipsTo_all] at hown ⊢
   have HOwn := Lib.hid hown
   clear hown
   go_wp2
   go_ret
   exact ⟨A, cap, rfl, HOwn.out, hb⟩
end Go.Proofs.YtmenmepdmojnfaaGreatDoor.Flp

namespace Go.Proofs.YtmenmepdmojnfaaGreatDoor.Flp
set_option linter.unusedVariables false
set_option linter.unusedSimpArgs false
set_option maxRecDepth 100000
open Go.RowKit Go.Proofs.YtmenmepdmojnfaaGreatDoor.Dms Go.Joins

def CloP (L : List Dm) (n : Nat) (w : World) (e : Ending) (w' : World) : Prop :=
 ∃ A cap, e = .returned (.slice A n cap) ∧ n ≤ cap ∧ w'.ownsRow w.heap.size 73 3 (.slice A n cap) n (rowM L) ∧ Below w.heap.size w w'
theorem cloNil (n c : Nat) (w : World) : (binOp .eql 27 (.slice none n c) (.slice none 0 0)).run Tryz.prog w = .ok (.bool true) w := by kernel_rfl
theorem cloSome (a : Addr) (n c : Nat) (w : World) : (binOp .eql 27 (.slice (some a) n c) (.slice none 0 0)).run Tryz.prog w = .ok (.bool false) w := by kernel_rfl
set_option maxHeartbeats 1000000 in
theorem iCloneM (w : World) (A : Option Addr) (n cap B : Nat) (L : List Dm) (hL : L.length = n) (hn : (n : Int) ≤ 1048576) (h : RowM w B A L) (hB : B ≤ w.heap.size) :
  Calls Tryz.prog 92 #[.slice A n cap] w (CloP L n w) := by
 cases A with
 | none =>
  obtain ⟨b, off, hA, _⟩ := h.at
  have h0 : n = 0 := by
   rcases Nat.eq_zero_or_pos n with h0 | h0
   ·exact h0
   ·have := (hA (by omega)).1; cases this
  subst h0
  have hL0 := List.eq_nil_of_length_eq_zero hL
  subst hL0
  have hq := cloNil 0 cap w
  have HP := Lib.hid (show CloP [] 0 w (.returned (.slice none 0 0)) w from ⟨none, 0, rfl, Nat.le_refl _, World.ownsRow_nil w w.heap.size 73 3, Below.refl _ _⟩)
  clear hL hn h hB hA
  go_enter Tryz.func92, Tryz.ntmps92
  go_wp2
  go_ret
  exact HP.out
 | some a =>
  have hq := cloSome a n cap w
  have HM := Lib.hid (World.ownsRow_made (base := w.heap.size) (e := 73) (size := 3) w #[] 0 (Nat.le_refl _) (by unfold maxLen; omega) rfl)
  have HB1 := Lib.hid (below_alloc1 w (.cells #[] 73))
  have HR := Lib.hid (h.below HB1.out hB)
  have HLn := Lib.hid hL
  clear hL h hB
  go_enter Tryz.func92, Tryz.ntmps92
  go_wp2_with (first
   | (at_builtin; refine wpList_copy _ rfl _ _ rfl w.heap.size w.heap.size 0 rfl HM.out (some a) n cap _ L HLn.out hn rfl HR.out (by simp) ?_; intro g' c' w2 hc hown hbw))
  have HO := Lib.hid hown
  have HB2 := Lib.hid (hbw _ _ HB1.out (by simp) (Nat.le_refl _))
  clear hown hbw
  go_ret
  exact ⟨_, c', rfl, hc, HO.out, HB2.out⟩
end Go.Proofs.YtmenmepdmojnfaaGreatDoor.Flp
