/- The two dominoes of a square, the program's: the functions that give them, and whether a list has both. -/
import Derived.Test.YtkjoonmnedofiaaCtn
import Derived.Test.YtkjoonmnedofiaaDomW
import Derived.Test.YtkjoonmnedofiaaFlpQ
namespace Go.Proofs.Ytkjoonmnedofiaa.Flp
set_option linter.unusedVariables false
set_option linter.unusedSimpArgs false
set_option maxRecDepth 100000
open Go.RowKit Go.Proofs.Ytkjoonmnedofiaa.Base Go.Proofs.Ytkjoonmnedofiaa.Pure Go.Proofs.Ytkjoonmnedofiaa.Cell Go.Proofs.Ytkjoonmnedofiaa.Dom Go.Proofs.Ytkjoonmnedofiaa.Dms Go.Proofs.Ytkjoonmnedofiaa.Til Go.Joins

/-- the second of the two, as the program reckons it. -/
def pw2 (x y : Int) (b : Bool) : Dm := if b then (wrap64 (x + 1), y, true) else (x, wrap64 (y + 1), false)
/-- two dominoes in one array. -/
abbrev arV (d f : Dm) : Value := .agg #[.int .i64 d.1, .int .i64 d.2.1, .bool d.2.2, .int .i64 f.1, .int .i64 f.2.1, .bool f.2.2]
def ArP (d f : Dm) (w : World) (e : Ending) (w' : World) : Prop := e = .returned (arV d f) ∧ Below w.heap.size w w'
/-- which function gives the two. -/
def fnN (b : Bool) : Nat := if b then 61 else 60
def fnV (b : Bool) : Value := .func (.func (fnN b)) #[] #[]
set_option maxHeartbeats 1000000 in
theorem iAcross (x y : Int) (w : World) : Calls Try.prog 60 #[.agg #[.int .i64 x, .int .i64 y]] w (ArP (x, y, false) (x, wrap64 (y + 1), false) w) := by
  go_enter Try.func60, Try.ntmps60
  go_wp2
  exact bodyPost_ret (v := arV (x, y, false) (x, wrap64 (y + 1), false)) (by simp [results, Try.results60, go_sem]) rfl ⟨rfl, below_alloc2 _ _ _⟩
set_option maxHeartbeats 1000000 in
theorem iDown (x y : Int) (w : World) : Calls Try.prog 61 #[.agg #[.int .i64 x, .int .i64 y]] w (ArP (x, y, true) (wrap64 (x + 1), y, true) w) := by
  go_enter Try.func61, Try.ntmps61
  go_wp2
  exact bodyPost_ret (v := arV (x, y, true) (wrap64 (x + 1), y, true)) (by simp [results, Try.results61, go_sem]) rfl ⟨rfl, below_alloc2 _ _ _⟩
theorem iPair (x y : Int) (b : Bool) (w : World) : Calls Try.prog (fnN b) #[.agg #[.int .i64 x, .int .i64 y]] w (ArP (pr1 x y b) (pw2 x y b) w) := by
  cases b
  · exact iAcross x y w
  · exact iDown x y w
/-- what liesIn says. -/
def liB (L : List Dm) (x y : Int) (b : Bool) : Bool := in6 x y && has2 L x y b
theorem li_is (L : List Dm) (x y : Int) (b : Bool) : liB L x y b = ((okM (pr1 x y b) && decide (pr1 x y b ∈ L)) && (okM (pw2 x y b) && decide (pw2 x y b ∈ L))) := by
  unfold liB
  by_cases h6 : in6 x y = true
  · have h := in6_iff.1 h6
    have e : pw2 x y b = pr2 x y b := by
      unfold pw2 pr2
      rw [wrap_in (x := x) (by omega) (by omega), wrap_in (x := y) (by omega) (by omega)]
    rw [e, h6, ok1 h b, ok2 h b]; rfl
  · have h0 : in6 x y = false := Bool.eq_false_iff.2 h6
    rw [h0]
    have key : ¬ (okM (pr1 x y b) = true ∧ okM (pw2 x y b) = true) := by
      rintro ⟨o1, o2⟩
      apply h6
      unfold okM domB at o1 o2
      rw [Bool.and_eq_true, okB_iff, okB_iff] at o1 o2
      obtain ⟨⟨a0, a1, a2, a3⟩, ⟨b0, b1, b2, b3⟩⟩ := o1
      obtain ⟨⟨c0, c1, c2, c3⟩, _⟩ := o2
      rw [in6_iff]
      simp only [pr1, sx, sy] at a0 a1 a2 a3 b0 b1 b2 b3
      unfold pw2 at c0 c1 c2 c3
      cases b with
      | true =>
        simp only [if_true] at *
        rw [wrap_in (x := x) a0 a1] at c0 c1
        rw [wrap_in (x := y) a2 a3] at b2 b3
        omega
      | false =>
        simp only [Bool.false_eq_true, if_false] at *
        rw [wrap_in (x := x) a0 a1] at b0 b1
        rw [wrap_in (x := y) a2 a3] at c2 c3
        omega
    cases o1 : okM (pr1 x y b) <;> cases o2 : okM (pw2 x y b) <;> simp
    exact absurd ⟨o1, o2⟩ key
/-- one of the two out of the array. -/
theorem arAt (d f : Dm) (k : Nat) (h : k < 2) (W : World) : (Instr.index 70 (arV d f) (.int .i64 (k : Int))).run Try.prog W = .ok (dmV (if k = 0 then d else f)) W := by
  have h0 : (Instr.index 70 (arV d f) (.int .i64 0)).run Try.prog W = .ok (dmV d) W := by kernel_rfl
  have h1 : (Instr.index 70 (arV d f) (.int .i64 1)).run Try.prog W = .ok (dmV f) W := by kernel_rfl
  obtain rfl | rfl : k = 0 ∨ k = 1 := by omega
  · exact h0
  · exact h1
/-- is a domino valid and in a list? -/
def goodD (L : List Dm) (d : Dm) : Bool := okM d && decide (d ∈ L)
/-- what the loop has seen: the domino's cell in its box, and none of the first k is missing. -/
def LiI (w : World) (L : List Dm) (d f : Dm) (k : Nat) : Prop := (0 < k → goodD L d = true) ∧ (1 < k → goodD L f = true)
theorem LiI.zero (w : World) (L : List Dm) (d f : Dm) : LiI w L d f 0 := ⟨fun h => by omega, fun h => by omega⟩
theorem LiI.step {w : World} {L : List Dm} {d f : Dm} {k : Nat} (h : LiI w L d f k) (hk : k < 2) (hg : goodD L (if k = 0 then d else f) = true) : LiI w L d f (k + 1) := by
  obtain rfl | rfl : k = 0 ∨ k = 1 := by omega
  · exact ⟨fun _ => hg, fun h => by omega⟩
  · exact ⟨fun _ => h.1 (by omega), fun _ => hg⟩
theorem li_no {L : List Dm} {x y : Int} {b : Bool} {k : Nat} (hk : k < 2) (hg : goodD L (if k = 0 then pr1 x y b else pw2 x y b) = false) : liB L x y b = false := by
  rw [li_is]
  obtain rfl | rfl : k = 0 ∨ k = 1 := by omega
  · have : goodD L (pr1 x y b) = false := hg
    unfold goodD at this; rw [this]; rfl
  · have : goodD L (pw2 x y b) = false := hg
    unfold goodD at this; rw [this, Bool.and_false]
theorem li_yes {w : World} {L : List Dm} {x y : Int} {b : Bool} (h : LiI w L (pr1 x y b) (pw2 x y b) 2) : liB L x y b = true := by
  rw [li_is]
  have h1 := h.1 (by omega)
  have h2 := h.2 (by omega)
  unfold goodD at h1 h2
  rw [h1, h2]; rfl
set_option maxHeartbeats 2000000 in
theorem iLies (w : World) (A : Option Addr) (n cap B : Nat) (L : List Dm) (hL : L.length = n) (hn : (n : Int) ≤ 9223372036854775807) (h : RowM w B A L) (hB : B ≤ w.heap.size) (x y : Int) (b : Bool) :
    Calls Try.prog 62 #[fnV b, .slice A n cap, .agg #[.int .i64 x, .int .i64 y]] w (Bol (liB L x y b) w) := by
  have HP := Lib.hid (fun W => iPair x y b W)
  have HOk := Lib.hid (fun (d : Dm) W => iDominoOkW d.1 d.2.1 d.2.2 W)
  have HCt := Lib.hid (fun W (hb : Below w.heap.size w W) d => iContains W A n cap B L hL hn (h.below hb hB) (by have := hb.size; omega) d)
  have HNo := Lib.hid (fun k (hk : k < 2) hg => li_no (L := L) (x := x) (y := y) (b := b) (k := k) hk hg)
  have HYes := Lib.hid (fun h => li_yes (w := w) (L := L) (x := x) (y := y) (b := b) h)
  have T0 := Lib.hid (cb_start x y w)
  have HG := Lib.hid (fun d => show goodD L d = (domB d.1 d.2.1 d.2.2 && decide (d ∈ L)) from rfl)
  generalize liB L x y b = r at HNo HYes ⊢
  generalize pr1 x y b = d at HP HNo HYes
  generalize pw2 x y b = f at HP HNo HYes
  clear hL hn h hB
  have key : ∀ fn : Nat, fn = fnN b → (fn = 61 ∨ fn = 60) → Calls Try.prog 62 #[.func (.func fn) #[] #[], .slice A n cap, .agg #[.int .i64 x, .int .i64 y]] w (Bol r w) := by
    intro fn hfn hor
    rw [← hfn] at HP
    clear hfn
    rcases hor with rfl | rfl
    · go_enter Try.func62, Try.ntmps62
      go_wp2_with fail
      have c0 := T0.out.2.c0
      have c1 := T0.out.2.c1
      refine (HP.out _).mono ?_
      rintro e w1 ⟨rfl, hb1⟩
      have T1 := Lib.hid (T0.out.on hb1)
      clear T0 hb1 c0 c1 HP
      go_wp2_with fail
      go_loopw [8, 12] (fun _ i wr => ∃ k : Nat, k ≤ 2 ∧ i = .int .i64 k ∧ Below w.heap.size w wr ∧ Hid (LiI w L d f k)) (fun _ i _ => 2 - (intOf i).toNat)
      case atStart => exact ⟨0, by omega, rfl, T1.out.1, Lib.hid (LiI.zero _ _ _ _)⟩
      case round =>
        clear T1
        obtain ⟨k, hk, rfl, hb, HI⟩ := hrel
        by_cases hlt : k < 2
        · have hix := fun W => arAt d f k hlt W
          have HS := Lib.hid (fun hg => HI.out.step hlt hg)
          have HN := Lib.hid (fun hg => HNo.out k hlt hg)
          have hk2 : (k : Int) < 2 := by omega
          generalize (if k = 0 then d else f) = p at hix HS HN
          have HOp := Lib.hid (fun W => HOk.out p W)
          have HCp := Lib.hid (fun W hb => HCt.out W hb p)
          have HGp := Lib.hid (HG.out p)
          generalize domB p.1 p.2.1 p.2.2 = ok at HOp HGp
          generalize decide (p ∈ L) = isin at HCp HGp
          obtain ⟨u, v, a⟩ := p
          have HB := Lib.hid (hb.alloc hb.size (.cells #[.int .i64 u, .int .i64 v, .bool a] 38))
          have KB := Lib.hid (At3.new 38 wr u v a)
          clear hb HI HNo HOk HCt HG
          go_wp2_with fail
          generalize wr.alloc (.cells #[.int .i64 u, .int .i64 v, .bool a] 38) = W1 at HB KB ⊢
          refine (HOp.out _).mono ?_
          rintro e w2 ⟨rfl, hb2⟩
          have HB2 := Lib.hid (HB.out.trans (hb2.mono HB.out.size))
          have KB2 := Lib.hid (At3.on KB.out hb2)
          clear hb2 HB KB HOp
          have c0 := At3.c0 KB2.out
          have c1 := At3.c1 KB2.out
          have c2 := At3.c2 KB2.out
          cases ok with
          | false =>
            go_wp2
            go_ret
            exact mkBol (HN.out (by rw [HGp.out]; rfl)).symm HB2.out
          | true =>
            go_wp2_with fail
            refine (HCp.out _ HB2.out).mono ?_
            rintro e w3 ⟨rfl, hb3⟩
            have HB3 := Lib.hid (HB2.out.trans (hb3.mono HB2.out.size))
            clear hb3 c0 c1 c2 HCp
            cases isin with
            | false =>
              go_wp2
              go_ret
              exact mkBol (HN.out (by rw [HGp.out]; rfl)).symm HB3.out
            | true =>
              go_wp2
              go_roundw
              case rel => exact ⟨k + 1, by omega, by go_num, HB3.out, Lib.hid (HS.out (by rw [HGp.out]; rfl))⟩
              case measure => (simp [intOf] <;> omega)
        · obtain rfl : k = 2 := by omega
          have HY := Lib.hid (HYes.out HI.out)
          have HB := Lib.hid hb
          clear hb HI
          go_wp2
          go_ret
          exact mkBol HY.out.symm HB.out
    · go_enter Try.func62, Try.ntmps62
      go_wp2_with fail
      have c0 := T0.out.2.c0
      have c1 := T0.out.2.c1
      refine (HP.out _).mono ?_
      rintro e w1 ⟨rfl, hb1⟩
      have T1 := Lib.hid (T0.out.on hb1)
      clear T0 hb1 c0 c1 HP
      go_wp2_with fail
      go_loopw [8, 12] (fun _ i wr => ∃ k : Nat, k ≤ 2 ∧ i = .int .i64 k ∧ Below w.heap.size w wr ∧ Hid (LiI w L d f k)) (fun _ i _ => 2 - (intOf i).toNat)
      case atStart => exact ⟨0, by omega, rfl, T1.out.1, Lib.hid (LiI.zero _ _ _ _)⟩
      case round =>
        clear T1
        obtain ⟨k, hk, rfl, hb, HI⟩ := hrel
        by_cases hlt : k < 2
        · have hix := fun W => arAt d f k hlt W
          have HS := Lib.hid (fun hg => HI.out.step hlt hg)
          have HN := Lib.hid (fun hg => HNo.out k hlt hg)
          have hk2 : (k : Int) < 2 := by omega
          generalize (if k = 0 then d else f) = p at hix HS HN
          have HOp := Lib.hid (fun W => HOk.out p W)
          have HCp := Lib.hid (fun W hb => HCt.out W hb p)
          have HGp := Lib.hid (HG.out p)
          generalize domB p.1 p.2.1 p.2.2 = ok at HOp HGp
          generalize decide (p ∈ L) = isin at HCp HGp
          obtain ⟨u, v, a⟩ := p
          have HB := Lib.hid (hb.alloc hb.size (.cells #[.int .i64 u, .int .i64 v, .bool a] 38))
          have KB := Lib.hid (At3.new 38 wr u v a)
          clear hb HI HNo HOk HCt HG
          go_wp2_with fail
          generalize wr.alloc (.cells #[.int .i64 u, .int .i64 v, .bool a] 38) = W1 at HB KB ⊢
          refine (HOp.out _).mono ?_
          rintro e w2 ⟨rfl, hb2⟩
          have HB2 := Lib.hid (HB.out.trans (hb2.mono HB.out.size))
          have KB2 := Lib.hid (At3.on KB.out hb2)
          clear hb2 HB KB HOp
          have c0 := At3.c0 KB2.out
          have c1 := At3.c1 KB2.out
          have c2 := At3.c2 KB2.out
          cases ok with
          | false =>
            go_wp2
            go_ret
            exact mkBol (HN.out (by rw [HGp.out]; rfl)).symm HB2.out
          | true =>
            go_wp2_with fail
            refine (HCp.out _ HB2.out).mono ?_
            rintro e w3 ⟨rfl, hb3⟩
            have HB3 := Lib.hid (HB2.out.trans (hb3.mono HB2.out.size))
            clear hb3 c0 c1 c2 HCp
            cases isin with
            | false =>
              go_wp2
              go_ret
              exact mkBol (HN.out (by rw [HGp.out]; rfl)).symm HB3.out
            | true =>
              go_wp2
              go_roundw
              case rel => exact ⟨k + 1, by omega, by go_num, HB3.out, Lib.hid (HS.out (by rw [HGp.out]; rfl))⟩
              case measure => (simp [intOf] <;> omega)
        · obtain rfl : k = 2 := by omega
          have HY := Lib.hid (HYes.out HI.out)
          have HB := Lib.hid hb
          clear hb HI
          go_wp2
          go_ret
          exact mkBol HY.out.symm HB.out
  refine key (fnN b) rfl ?_
  cases b
  · exact .inr rfl
  · exact .inl rfl
end Go.Proofs.Ytkjoonmnedofiaa.Flp
