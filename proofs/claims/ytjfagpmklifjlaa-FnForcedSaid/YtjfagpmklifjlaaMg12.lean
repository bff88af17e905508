/- GoW in one text. -/
import Derived.Test.YtjfagpmklifjlaaMg11
import Derived.Test.YtjfagpmklifjlaaMg07
import Derived.Deep.CutRange

namespace Go.Proofs.Ytjfagpmklifjlaa.Prof
set_option linter.unusedVariables false
set_option linter.unusedSimpArgs false
open Go.RowKit Go.Proofs.Ytjfagpmklifjlaa.Pure Go.Proofs.Ytjfagpmklifjlaa.Cell Go.Proofs.Ytjfagpmklifjlaa.Reg Go.Proofs.Ytjfagpmklifjlaa.Cnt Go.Joins
open Go.Maps (Keyed)

theorem next_prof {ops : Array Oper} {rest : List Oper} {o : Oper} {a : Act} {Q : Exit → Act → World → Prop} (w : World) (hg : o.guard = none) (it : Operand) (hop : o.op = Op.next it false)
  (b r : Nat) (Db : DataW Unit) (left : Lit → Bool) (cnt : Nat) (g : Nat → Bool) (k q : Nat) (hq : q ≤ 63) (hit : a.eval it = .pointer (some ⟨r, 0, none⟩)) (h : w.ranges Try.prog 96 RE b r 20000 Db left cnt) (hl : LK left g k q)
  (hDone : (∀ kl, left kl = false) → wpList Try.prog ops Q rest (a.put o.dst (.tuple #[.bool false])) w)
  (hMore : ∀ (s d : Nat) (c : Int) (w' : World) (cnt' : Nat), s < 256 → d < q + 1 → Vd g k s → left (kI (ix s d)) = true → Db.atKey (kI (ix s d)) (.lit (.int .i64 0)) = .lit (.int .i64 c) → w'.ranges Try.prog 96 RE b r 20000 Db (fun z => left z && !z.sameKey (kI (ix s d))) cnt' → cnt' < cnt →
   w.grownBy w' (some r) → (Instr.entry (.pointer (some ⟨r, 0, none⟩))).run Try.prog w' = .ok (.tuple #[.agg #[.int .i64 (s : Int), .int .i64 (d : Int)], .int .i64 c]) w' → wpList Try.prog ops Q rest (a.put o.dst (.tuple #[.bool true, .agg #[.int .i64 (s : Int), .int .i64 (d : Int)], .int .i64 c])) w') :
  wpList Try.prog ops Q (o :: rest) a w := by
 refine wpList_plain hg fun K' hK' => ?_
 unfold Oper.wp
 rcases h.next law o.type with ⟨h0, hl0, hrun⟩ | ⟨key, v, kl, y, w', cnt', hkey, hlk, hv, hat, hrun, hrg, hlt, hgr, hsz, hen⟩
 ·simp [execOp, hop, hit, hrun, Result.andThen]
  exact hK' _ _ (hDone hl0)
 ·obtain ⟨i, hi, rfl, hvd⟩ := hl kl hlk
  obtain rfl := law.inj hkey (keyI (by omega))
  obtain ⟨c, rfl, rfl, hwc⟩ := plainElem_int_inv ui hv
  simp [execOp, hop, hit, hrun, Result.andThen]
  have hM := hMore (i % 256) (i / 256) c w' cnt' (by omega) (by omega) hvd
  rw [ix_at] at hM
  exact hK' _ _ (hM hlk (hat _) hrg hlt hgr hen)
theorem run_makeMapN {w : World} {n : Int} : (Instr.makeMap 93 (some (.int .i64 n))).run Try.prog w = .ok (.map (some w.heap.size)) (w.alloc (.map #[] 0)) := by
 simp [Instr.makeMap, run_underlying ut, asInt, asIntOf, Result.andThen]

theorem has_right {xs : List Int} (ho : okR xs) {k x y : Nat} (hk : k < 64) (hx : x = k % 8) (hy : y = k / 8) : hasB xs ((x + 1 : Nat) : Int) (y : Int) = true ↔ k % 8 ≠ 7 ∧ gR xs (k + 1) = true := by
 by_cases h7 : k % 8 = 7
 ·rw [hasB_iff]
  constructor
  ·rintro ⟨_, _, h, _⟩; omega
  ·rintro ⟨h, _⟩; exact absurd h7 h
 ·have h8 : k + 1 < 64 := by omega
  rw [has_at ho (by omega) (by omega), gR_in h8, show (k + 1) / 8 = y by omega, show (k + 1) % 8 = x + 1 by omega]
  exact ⟨fun h => ⟨h7, h⟩, fun h => h.2⟩
theorem has_down {xs : List Int} (ho : okR xs) {k x y : Nat} (hk : k < 64) (hx : x = k % 8) (hy : y = k / 8) : hasB xs (x : Int) ((y + 1 : Nat) : Int) = true ↔ gR xs (k + 8) = true := by
 by_cases h8 : k + 8 < 64
 ·rw [has_at ho (by omega) (by omega), gR_in h8, show (k + 8) / 8 = y + 1 by omega, show (k + 8) % 8 = x by omega]
 ·rw [gR_out xs _ (by omega), hasB_iff]
  constructor
  ·rintro ⟨_, _, _, _, h, _⟩; omega
  ·intro h; cases h
def PZ (w : World) (v : Value) (x y : Nat) (W : World) : Prop := BxG w v x y W ∧ Own W (w.heap.size + 2) (.map [])
theorem PZ.on {w W W' : World} {v : Value} {x y : Nat} (h : PZ w v x y W) (hb : Below W.heap.size W W') : PZ w v x y W' := ⟨h.1.on hb, h.2.on hb⟩
theorem pz_start (w : World) (v : Value) (x y : Nat) (T T' : TypeId) : PZ w v x y (((w.alloc (.cells #[v] T)).alloc (.cells #[.int .i64 (x : Int), .int .i64 (y : Int)] T')).alloc (.map #[] 0)) := by
 have h := World.ownsMap_made ((w.alloc (.cells #[v] T)).alloc (.cells #[.int .i64 (x : Int), .int .i64 (y : Int)] T')) Try.prog 96 RE
 have e : ((w.alloc (.cells #[v] T)).alloc (.cells #[.int .i64 (x : Int), .int .i64 (y : Int)] T')).heap.size = w.heap.size + 2 := by simp
 rw [e] at h
 exact ⟨(bxG_start w v x y T T').on (below_alloc1 _ _), h.mono (Nat.zero_le _)⟩
theorem PZ.reads {w W : World} {v : Value} {x y : Nat} (h : PZ w v x y W) : W.cell? ⟨w.heap.size, 0, none⟩ = some v ∧ W.cell? ⟨w.heap.size + 1, 0, none⟩ = some (.int .i64 (x : Int)) ∧ W.cell? ⟨w.heap.size + 1, 1, none⟩ = some (.int .i64 (y : Int)) := h.1.2.2

set_option maxRecDepth 100000 in
set_option maxHeartbeats 4000000 in
theorem iGoPast (w : World) (A : Option Addr) (n cap B : Nat) (xs : List Int) (hx : xs.length = n) (hn : (n : Int) ≤ 9223372036854775807) (ho : okR xs) (h : RowB w B A xs) (hB : B ≤ w.heap.size) (k q x y : Nat) (hk : k < 64) (hxk : x = k % 8) (hyk : y = k / 8) (hgk : gR xs k = true) (hq : q ≤ 63) (fr : Bool) (m : Nat) (Db : DataW Unit) (hm : Own w m Db) (hkd : KD Db (gR xs) k q) :
  Calls Try.prog 93 #[.agg #[.slice A n cap], .agg #[.int .i64 (x : Int), .int .i64 (y : Int)], .map (some m), .bool fr] w (fun e w' => ∃ m' Da, e = .returned (.map (some m')) ∧ Own w' m' Da ∧ GoR (gR xs) fr k q Db Da ∧ w.heap.size ≤ m' ∧ Below w.heap.size w w') := by
 have hmm := @run_makeMapN
 have hml := hm.lt
 have T0 := Lib.hid (fun (T T' : TypeId) => pz_start w (.slice A n cap) x y T T')
 have HM1 := Lib.hid (fun W => show Calls Try.prog 83 #[.agg #[.int .i64 (x : Int), .int .i64 (y : Int)], .int .i64 1, .int .i64 0] W (Cel ((x + 1 : Nat) : Int) (y : Int) W) from by
  have := moved (x : Int) (y : Int) 1 0 W
  rwa [show wrap64 ((x : Int) + 1) = ((x + 1 : Nat) : Int) by unfold wrap64; omega, show wrap64 ((y : Int) + 0) = (y : Int) by unfold wrap64; omega] at this)
 have HM2 := Lib.hid (fun W => show Calls Try.prog 83 #[.agg #[.int .i64 (x : Int), .int .i64 (y : Int)], .int .i64 0, .int .i64 1] W (Cel (x : Int) ((y + 1 : Nat) : Int) W) from by
  have := moved (x : Int) (y : Int) 0 1 W
  rwa [show wrap64 ((x : Int) + 0) = (x : Int) by unfold wrap64; omega, show wrap64 ((y : Int) + 1) = ((y + 1 : Nat) : Int) by unfold wrap64; omega] at this)
 obtain ⟨rb, hrb⟩ : ∃ rb, rb = hasB xs ((x + 1 : Nat) : Int) (y : Int) := ⟨_, rfl⟩
 obtain ⟨db, hdb⟩ : ∃ db, db = hasB xs (x : Int) ((y + 1 : Nat) : Int) := ⟨_, rfl⟩
 have HH1 := Lib.hid (fun W (hb : PZ w (.slice A n cap) x y W) => show Calls Try.prog 87 #[.agg #[.slice A n cap], .agg #[.int .i64 ((x + 1 : Nat) : Int), .int .i64 (y : Int)]] W (Bol rb W) from by rw [hrb]; exact iHasCell W A n cap B xs hx hn (h.below hb.1.1 hB) (by have := hb.1.1.size; omega) _ _)
 have HH2 := Lib.hid (fun W (hb : PZ w (.slice A n cap) x y W) => show Calls Try.prog 87 #[.agg #[.slice A n cap], .agg #[.int .i64 (x : Int), .int .i64 ((y + 1 : Nat) : Int)]] W (Bol db W) from by rw [hdb]; exact iHasCell W A n cap B xs hx hn (h.below hb.1.1 hB) (by have := hb.1.1.size; omega) _ _)
 have HR := Lib.hid (show rb = true ↔ k % 8 ≠ 7 ∧ gR xs (k + 1) = true from by rw [hrb]; exact has_right ho hk hxk hyk)
 have HD := Lib.hid (show db = true ↔ gR xs (k + 8) = true from by rw [hdb]; exact has_down ho hk hxk hyk)
 have HL0 := Lib.hid (LS.start (fr := fr) hkd)
 have HOw := Lib.hid (fun W (hb : Below w.heap.size w W) => show Own W m Db from World.ownsMap.kept (row := none) hm (grown_of hb) (by simp))
 have hx8 : x < 8 := by omega
 have HX := Lib.hid hxk
 have HG := Lib.hid hgk
 generalize ((x + 1 : Nat) : Int) = x1 at HM1 HH1
 generalize ((y + 1 : Nat) : Int) = y1 at HM2 HH2
 generalize gR xs = g at HR HD HL0 HG ⊢
 clear hkd hgk ho h hB hx hn hrb hdb hyk hxk
 go_enter Try.func93, Try.ntmps93
 go_wp2_with (first
  | (at_len; refine wpList_len_own _ rfl _ 93 rfl 96 3 ut _ m 20000 Db rfl ((World.ownsMap.alloc hm _).alloc _) ?_)
  | fail)
 have T1 := T0.out 26 38
 clear T0 hmm hm
 rw [show w.heap.size + 1 + 1 = w.heap.size + 2 from rfl]
 generalize World.alloc _ (.map #[] 0) = W at T1 ⊢
 refine wp_region_noPanic ?_
 have T2 := T1.on (drewN_below (Below.refl _ W) 1)
 refine wp_region_held_drew (S := (fun w' => w'.cell? ⟨w.heap.size, 0, none⟩ = some (.slice A n cap) ∧ w'.cell? ⟨w.heap.size + 1, 0, none⟩ = some (.int .i64 (x : Int)) ∧ w'.cell? ⟨w.heap.size + 1, 1, none⟩ = some (.int .i64 (y : Int)))) (by kernel_rfl) (T2.reads) (fun hHeld => ?_)
 change PZ w (.slice A n cap) x y W.drew at T2
 generalize W.drew = WR at T2 hHeld ⊢
 clear T1
 refine wpAnyH_take (i := 0) (v := ?_) rfl (by kernel_rfl) (by kernel_rfl) (by kernel_rfl) (fun _ _ _ h => h) (Or.inl ⟨by rfl, ?_⟩) (by assumption) ?_
 rotate_left
 ·(intro w' hS; (try dsimp only at hS); go_simp; try with_reducible rfl)
 try simp only [Act.put, List.getElem_toArray, List.getElem_cons_succ, List.getElem_cons_zero, List.setIfInBounds_toArray, List.set_cons_zero, List.set_cons_succ]
 refine wpAnyH_take (i := 1) (v := ?_) rfl (by kernel_rfl) (by kernel_rfl) (by kernel_rfl) (fun _ _ _ h => h) (Or.inl ⟨by rfl, ?_⟩) (by assumption) ?_
 rotate_left
 ·(intro w' hS; (try dsimp only at hS); go_simp; try with_reducible rfl)
 try simp only [Act.put, List.getElem_toArray, List.getElem_cons_succ, List.getElem_cons_zero, List.setIfInBounds_toArray, List.set_cons_zero, List.set_cons_succ]
 refine wpAnyH_take (i := 4) (v := ?_) rfl (by kernel_rfl) (by kernel_rfl) (by kernel_rfl) (fun _ _ _ h => h) (Or.inl ⟨by rfl, ?_⟩) (by assumption) ?_
 rotate_left
 ·(intro w' hS; (try dsimp only at hS); go_simp; try with_reducible rfl)
 try simp only [Act.put, List.getElem_toArray, List.getElem_cons_succ, List.getElem_cons_zero, List.setIfInBounds_toArray, List.set_cons_zero, List.set_cons_succ]
 refine wpAnyH_take (i := 5) (v := ?_) rfl (by kernel_rfl) (by kernel_rfl) (by kernel_rfl) (fun _ _ _ h => h) (Or.inl ⟨by rfl, ?_⟩) (by assumption) ?_
 rotate_left
 ·(intro w' hS; (try dsimp only at hS); go_simp; try with_reducible rfl)
 try simp only [Act.put, List.getElem_toArray, List.getElem_cons_succ, List.getElem_cons_zero, List.setIfInBounds_toArray, List.set_cons_zero, List.set_cons_succ]
 refine wpAnyH_ready (rs := [2]) (by kernel_rfl) (by simp) ?_
 refine AllReadyH.cons rfl (fun K hK => ?_) AllReadyH.nil
 go_simp
 refine (HM1.out _).mono ?_
 rintro e wx ⟨rfl, hbx⟩
 have T2 := T2.on hbx
 clear hbx
 go_wp2_with fail
 refine hK.out _ _ (T2.reads) (fun hHeld => ?_)
 clear hK K
 try simp only [Act.put, List.getElem_toArray, List.getElem_cons_succ, List.getElem_cons_zero, List.setIfInBounds_toArray, List.set_cons_zero, List.set_cons_succ]
 refine wpAnyH_ready (rs := [3]) (by kernel_rfl) (by simp) ?_
 refine AllReadyH.cons rfl (fun K hK => ?_) AllReadyH.nil
 go_simp
 refine (HH1.out _ T2).mono ?_
 rintro e wx ⟨rfl, hbx⟩
 have T2 := T2.on hbx
 clear hbx
 go_wp2_with fail
 refine hK.out _ _ (T2.reads) (fun hHeld => ?_)
 clear hK K
 try simp only [Act.put, List.getElem_toArray, List.getElem_cons_succ, List.getElem_cons_zero, List.setIfInBounds_toArray, List.set_cons_zero, List.set_cons_succ]
 refine wpAnyH_ready (rs := [6]) (by kernel_rfl) (by simp) ?_
 refine AllReadyH.cons rfl (fun K hK => ?_) AllReadyH.nil
 go_simp
 refine (HM2.out _).mono ?_
 rintro e wx ⟨rfl, hbx⟩
 have T2 := T2.on hbx
 clear hbx
 go_wp2_with fail
 refine hK.out _ _ (T2.reads) (fun hHeld => ?_)
 clear hK K
 try simp only [Act.put, List.getElem_toArray, List.getElem_cons_succ, List.getElem_cons_zero, List.setIfInBounds_toArray, List.set_cons_zero, List.set_cons_succ]
 refine wpAnyH_ready (rs := [7]) (by kernel_rfl) (by simp) ?_
 refine AllReadyH.cons rfl (fun K hK => ?_) AllReadyH.nil
 go_simp
 refine (HH2.out _ T2).mono ?_
 rintro e wx ⟨rfl, hbx⟩
 have T2 := T2.on hbx
 clear hbx
 go_wp2_with fail
 refine hK.out _ _ (T2.reads) (fun hHeld => ?_)
 clear hK K
 try simp only [Act.put, List.getElem_toArray, List.getElem_cons_succ, List.getElem_cons_zero, List.setIfInBounds_toArray, List.set_cons_zero, List.set_cons_succ]
 refine wpAnyH_take (i := 8) (v := ?_) rfl (by kernel_rfl) (by kernel_rfl) (by kernel_rfl) (fun _ _ _ h => h) (Or.inl ⟨by rfl, ?_⟩) (by assumption) ?_
 rotate_left
 ·(intro w' hS; (try dsimp only at hS); go_simp; try with_reducible rfl)
 try simp only [Act.put, List.getElem_toArray, List.getElem_cons_succ, List.getElem_cons_zero, List.setIfInBounds_toArray, List.set_cons_zero, List.set_cons_succ]
 refine wpAnyH_take (i := 9) (v := ?_) rfl (by kernel_rfl) (by kernel_rfl) (by kernel_rfl) (fun _ _ _ h => h) (Or.inl ⟨by rfl, ?_⟩) (by assumption) ?_
 rotate_left
 ·(intro w' hS; (try dsimp only at hS); go_simp; try with_reducible rfl)
 try simp only [Act.put, List.getElem_toArray, List.getElem_cons_succ, List.getElem_cons_zero, List.setIfInBounds_toArray, List.set_cons_zero, List.set_cons_succ]
 refine wpAnyH_done (by kernel_rfl) ?_ _
 refine NoPanic.normal ?_
 clear hHeld
 go_wp2_with (first
  | (at_range; refine wpList_range_own _ rfl _ 93 rfl 96 3 law ut RE m 20000 Db rfl (HOw.out _ T2.1.1) ?_; intro w0 hrg0 hg0 hs0)
  | fail)
 go_frame
 have W0 := Lib.hid (show WL w (.slice A n cap) x y m (w.heap.size + 2) wx.heap.size Db (Maps.has Db) (Maps.size Db) (.map []) w0 from ⟨T2.1.grown hg0 (fun j e => by cases e), hrg0, World.ownsMap.kept T2.2 hg0 (by simp), hml, Nat.le_refl _, T2.2.lt⟩)
 generalize wx.heap.size = r at W0 ⊢
 generalize w.heap.size + 2 = m2 at W0 ⊢
 clear hrg0 hg0 hs0 T2 HM1 HM2 HH1 HH2 HOw hml hHeld
 go_loopw [12, 13] (fun _ _ wr => ∃ left cnt Da, WL w (.slice A n cap) x y m m2 r Db left cnt Da wr ∧ LS g fr k q Db left Da) (fun _ _ wr => wr.rangeLeft m r)
 case atStart => exact ⟨_, _, _, W0.out, HL0.out⟩
 case round =>
  clear W0 HL0
  obtain ⟨left, cnt, Da, W1, L1⟩ := hrel
  go_wp2_with (first | (at_next; refine next_prof _ rfl _ rfl m r Db left cnt g k q hq rfl W1.2.1 L1.1 ?_ ?_) | fail)
  ·intro hl0
   go_wp2
   go_ret
   exact ⟨m2, Da, rfl, W1.2.2.1, L1.done hl0, by have := W1.2.2.2.2.1; omega, W1.1.1⟩
  ·intro s d c w1 cnt1 hs hd hvd hlx hat hrg1 hlt hg1 hen
   have HM := Lib.hid (show wr.rangeLeft m r = cnt from W1.2.1.left_eq)
   have T3 := Lib.hid (wp_start (s := s) (d := d) (W1.step hg1 hrg1))
   obtain ⟨lk1, P1⟩ := L1.next hq (i := ix s d) (by unfold ix; omega) hlx hat
   rw [ix_mod hs, ix_div hs] at P1
   generalize (fun z : Lit => left z && !z.sameKey (kI (ix s d))) = left1 at T3 lk1 P1
   have HLK := Lib.hid lk1
   have HP := Lib.hid P1
   have HV := Lib.hid hvd
   have HLT := Lib.hid hlt
   clear W1 L1 lk1 P1 hvd hlx hat hrg1 hlt hg1
   go_upto_region 6 with fail
   have T4 := T3.out
   clear T3 hen
   generalize w1.alloc (.cells #[.int .i64 (s : Int), .int .i64 (d : Int)] 96) = W4 at T4 ⊢
   generalize w1.heap.size = p at T4 ⊢
   obtain ⟨c0, c1, cx⟩ := T4.reads
   go_wp2_with fail
   refine (iCovers s d x hs hx8 _).mono ?_
   rintro e w5 ⟨rfl, hb5⟩
   have T5 := T4.on hb5
   clear T4 hb5 c0 c1 cx
   cases hbit : s.testBit x with
   | true =>
    have HWo := Lib.hid (fun W => iWithout s d x hs (by omega) hx8 hbit W)
    have HP1 := Lib.hid (show PS g fr k q Db left1 Da c (fun N => V g fr N (63 - k) (k + 1) (s - 2 ^ x) d + 0) from HP.out.same (fun N => by have := HX.out; subst this; exact V_cov HG.out hbit))
    have hs1 := (bit_sub s hs x hx8 hbit).1
    have HV1 := Lib.hid (show Vd g (k + 1) (s - 2 ^ x) from by have := HX.out; subst this; exact Vd_cov HV.out hs hbit)
    generalize s - 2 ^ x = s1 at HWo HP1 hs1 HV1
    go_wp2_with fail
    refine wp_region_noPanic ?_
    have T5 := T5.drew
    refine wp_region_held_drew (S := (fun w' => w'.cell? ⟨p, 0, none⟩ = some (.int .i64 (s : Int)) ∧ w'.cell? ⟨p, 1, none⟩ = some (.int .i64 (d : Int)) ∧ w'.cell? ⟨w.heap.size + 1, 0, none⟩ = some (.int .i64 (x : Int)))) (by kernel_rfl) (T5.reads) (fun hHeld => ?_)
    generalize World.drew _ = WR at T5 hHeld ⊢
    refine wpAnyH_take (i := 0) (v := ?_) rfl (by kernel_rfl) (by kernel_rfl) (by kernel_rfl) (fun _ _ _ h => h) (Or.inl ⟨by rfl, ?_⟩) (by assumption) ?_
    rotate_left
    ·(intro w' hS; (try dsimp only at hS); go_simp; try with_reducible rfl)
    try simp only [Act.put, List.getElem_toArray, List.getElem_cons_succ, List.getElem_cons_zero, List.setIfInBounds_toArray, List.set_cons_zero, List.set_cons_succ]
    refine wpAnyH_take (i := 1) (v := ?_) rfl (by kernel_rfl) (by kernel_rfl) (by kernel_rfl) (fun _ _ _ h => h) (Or.inl ⟨by rfl, ?_⟩) (by assumption) ?_
    rotate_left
    ·(intro w' hS; (try dsimp only at hS); go_simp; try with_reducible rfl)
    try simp only [Act.put, List.getElem_toArray, List.getElem_cons_succ, List.getElem_cons_zero, List.setIfInBounds_toArray, List.set_cons_zero, List.set_cons_succ]
    refine wpAnyH_take (i := 2) (v := ?_) rfl (by kernel_rfl) (by kernel_rfl) (by kernel_rfl) (fun _ _ _ h => h) (Or.inl ⟨by rfl, ?_⟩) (by assumption) ?_
    rotate_left
    ·(intro w' hS; (try dsimp only at hS); go_simp; try with_reducible rfl)
    try simp only [Act.put, List.getElem_toArray, List.getElem_cons_succ, List.getElem_cons_zero, List.setIfInBounds_toArray, List.set_cons_zero, List.set_cons_succ]
    refine wpAnyH_take (i := 3) (v := ?_) rfl (by kernel_rfl) (by kernel_rfl) (by kernel_rfl) (fun _ _ _ h => h) (Or.inl ⟨by rfl, ?_⟩) (by assumption) ?_
    rotate_left
    ·(intro w' hS; (try dsimp only at hS); go_simp; try with_reducible rfl)
    try simp only [Act.put, List.getElem_toArray, List.getElem_cons_succ, List.getElem_cons_zero, List.setIfInBounds_toArray, List.set_cons_zero, List.set_cons_succ]
    refine wpAnyH_take (i := 6) (v := ?_) rfl (by kernel_rfl) (by kernel_rfl) (by kernel_rfl) (fun _ _ _ h => h) (Or.inl ⟨by rfl, ?_⟩) (by assumption) ?_
    rotate_left
    ·(intro w' hS; (try dsimp only at hS); go_simp; try with_reducible rfl)
    try simp only [Act.put, List.getElem_toArray, List.getElem_cons_succ, List.getElem_cons_zero, List.setIfInBounds_toArray, List.set_cons_zero, List.set_cons_succ]
    refine wpAnyH_ready (rs := [4]) (by kernel_rfl) (by simp) ?_
    refine AllReadyH.cons rfl (fun K hK => ?_) AllReadyH.nil
    go_simp
    refine (HWo.out _).mono ?_
    rintro e wx ⟨rfl, hbx⟩
    have T5 := T5.on hbx
    clear hbx
    go_wp2_with fail
    refine hK.out _ _ (T5.reads) (fun hHeld => ?_)
    clear hK K
    try simp only [Act.put, List.getElem_toArray, List.getElem_cons_succ, List.getElem_cons_zero, List.setIfInBounds_toArray, List.set_cons_zero, List.set_cons_succ]
    obtain ⟨st, Wa, Wb, a, HRa⟩ := ra_of (s := s1) (d := d) (c := c) T5.1.2.2.1 hs1 (show d < 70 by omega)
    obtain ⟨Dx, T9, P9⟩ := T5.up HRa HP1.out hq hs1 (by omega) HV1.out
    have HRb := HRa
    obtain ⟨l1, e1, l2, g1, es, g2, _⟩ := HRb
    have HT9 := Lib.hid T9
    have HP9 := Lib.hid P9
    clear T9 P9 HRa
    refine wpAnyH_ready (rs := [5, 8]) (by kernel_rfl) (by simp) ?_
    refine AllReadyH.cons rfl (fun K hK => ?_) (AllReadyH.cons rfl (fun K hK => ?_) AllReadyH.nil)
    ·go_simp
     refine hK.out _ _ (T5.reads) (fun hHeld => ?_)
     clear hK K
     try simp only [Act.put, List.getElem_toArray, List.getElem_cons_succ, List.getElem_cons_zero, List.setIfInBounds_toArray, List.set_cons_zero, List.set_cons_succ]
     refine wpAnyH_take (i := 7) (v := ?_) rfl (by kernel_rfl) (by kernel_rfl) (by kernel_rfl) (fun _ _ _ h => h) (Or.inl ⟨by rfl, ?_⟩) (by assumption) ?_
     rotate_left
     ·(intro w' hS; (try dsimp only at hS); go_simp; try with_reducible rfl)
     try simp only [Act.put, List.getElem_toArray, List.getElem_cons_succ, List.getElem_cons_zero, List.setIfInBounds_toArray, List.set_cons_zero, List.set_cons_succ]
     refine wpAnyH_ready (rs := [8]) (by kernel_rfl) (by simp) ?_
     refine AllReadyH.cons rfl (fun K hK => ?_) AllReadyH.nil
     go_simp
     refine hK.out _ _ (T5.keeps g1) (fun hHeld => ?_)
     clear hK K
     try simp only [Act.put, List.getElem_toArray, List.getElem_cons_succ, List.getElem_cons_zero, List.setIfInBounds_toArray, List.set_cons_zero, List.set_cons_succ]
     refine wpAnyH_take (i := 9) (v := ?_) rfl (by kernel_rfl) (by kernel_rfl) (by kernel_rfl) (fun _ _ _ h => h) (Or.inl ⟨by rfl, ?_⟩) (by assumption) ?_
     rotate_left
     ·(intro w' hS; (try dsimp only at hS); go_simp; try with_reducible rfl)
     try simp only [Act.put, List.getElem_toArray, List.getElem_cons_succ, List.getElem_cons_zero, List.setIfInBounds_toArray, List.set_cons_zero, List.set_cons_succ]
     refine wpAnyH_ready (rs := [10]) (by kernel_rfl) (by simp) ?_
     refine AllReadyH.cons rfl (fun K hK => ?_) AllReadyH.nil
     go_simp
     refine hK.out _ _ (T5.keeps g2) (fun hHeld => ?_)
     clear hK K
     try simp only [Act.put, List.getElem_toArray, List.getElem_cons_succ, List.getElem_cons_zero, List.setIfInBounds_toArray, List.set_cons_zero, List.set_cons_succ]
     refine wpAnyH_done (by kernel_rfl) ?_ _
     refine NoPanic.normal ?_
     have T9 := HT9.out
     have P9 := HP9.out
     go_wp2
     go_roundw
     case rel => exact ⟨left1, cnt1, Dx, T9.1, P9.done HLK.out⟩
     case measure => rw [T9.1.2.1.left_eq, HM.out]; exact HLT.out
    ·go_simp
     refine hK.out _ _ (T5.keeps g1) (fun hHeld => ?_)
     clear hK K
     try simp only [Act.put, List.getElem_toArray, List.getElem_cons_succ, List.getElem_cons_zero, List.setIfInBounds_toArray, List.set_cons_zero, List.set_cons_succ]
     refine wpAnyH_take (i := 9) (v := ?_) rfl (by kernel_rfl) (by kernel_rfl) (by kernel_rfl) (fun _ _ _ h => h) (Or.inl ⟨by rfl, ?_⟩) (by assumption) ?_
     rotate_left
     ·(intro w' hS; (try dsimp only at hS); go_simp; try with_reducible rfl)
     try simp only [Act.put, List.getElem_toArray, List.getElem_cons_succ, List.getElem_cons_zero, List.setIfInBounds_toArray, List.set_cons_zero, List.set_cons_succ]
     refine wpAnyH_ready (rs := [5]) (by kernel_rfl) (by simp) ?_
     refine AllReadyH.cons rfl (fun K hK => ?_) AllReadyH.nil
     go_simp
     refine hK.out _ _ (T5.keeps g1) (fun hHeld => ?_)
     clear hK K
     try simp only [Act.put, List.getElem_toArray, List.getElem_cons_succ, List.getElem_cons_zero, List.setIfInBounds_toArray, List.set_cons_zero, List.set_cons_succ]
     refine wpAnyH_take (i := 7) (v := ?_) rfl (by kernel_rfl) (by kernel_rfl) (by kernel_rfl) (fun _ _ _ h => h) (Or.inl ⟨by rfl, ?_⟩) (by assumption) ?_
     rotate_left
     ·(intro w' hS; (try dsimp only at hS); go_simp; try with_reducible rfl)
     try simp only [Act.put, List.getElem_toArray, List.getElem_cons_succ, List.getElem_cons_zero, List.setIfInBounds_toArray, List.set_cons_zero, List.set_cons_succ]
     refine wpAnyH_ready (rs := [10]) (by kernel_rfl) (by simp) ?_
     refine AllReadyH.cons rfl (fun K hK => ?_) AllReadyH.nil
     go_simp
     refine hK.out _ _ (T5.keeps g2) (fun hHeld => ?_)
     clear hK K
     try simp only [Act.put, List.getElem_toArray, List.getElem_cons_succ, List.getElem_cons_zero, List.setIfInBounds_toArray, List.set_cons_zero, List.set_cons_succ]
     refine wpAnyH_done (by kernel_rfl) ?_ _
     refine NoPanic.normal ?_
     have T9 := HT9.out
     have P9 := HP9.out
     go_wp2
     go_roundw
     case rel => exact ⟨left1, cnt1, Dx, T9.1, P9.done HLK.out⟩
     case measure => rw [T9.1.2.1.left_eq, HM.out]; exact HLT.out
   | false =>
    obtain ⟨x2, hx2⟩ : ∃ x2, x2 = x + 1 := ⟨_, rfl⟩
    obtain ⟨d2, hd2⟩ : ∃ d2, d2 = d + 1 := ⟨_, rfl⟩
    obtain ⟨rx, hrx⟩ : ∃ rx, rx = (rb && !s.testBit x2) := ⟨_, rfl⟩
    obtain ⟨E1, hE1⟩ : ∃ E1 : Nat → Nat, E1 = fun N => if fr = true then V g fr N (63 - k) (k + 1) s d else 0 := ⟨_, rfl⟩
    obtain ⟨E2, hE2⟩ : ∃ E2 : Nat → Nat, E2 = fun N => if rx = true then V g fr N (63 - k) (k + 1) (s + 2 ^ x2) d2 else 0 := ⟨_, rfl⟩
    obtain ⟨E3, hE3⟩ : ∃ E3 : Nat → Nat, E3 = fun N => if db = true then V g fr N (63 - k) (k + 1) (s + 2 ^ x) d2 else 0 := ⟨_, rfl⟩
    have hrx2 : rx = true ↔ k % 8 ≠ 7 ∧ g (k + 1) = true ∧ s.testBit (k % 8 + 1) = false := by
     have := HR.out
     have hx := HX.out
     rw [hrx, hx2, hx]
     simp only [Bool.and_eq_true, this, Bool.not_eq_true', and_assoc]
    have HP1 := Lib.hid (show PS g fr k q Db left1 Da c (fun N => E1 N + (E2 N + E3 N)) from HP.out.same (fun N => by
     have hx := HX.out
     have hd3 := HD.out
     rw [V_two HG.out (by rw [← hx]; exact hbit), hE1, hE2, hE3]
     simp only [hrx2, hd3, hx2, hd2, ← hx, Nat.add_assoc]))
    have HV1 := Lib.hid (show Vd g (k + 1) s from Vd_no HV.out (by rw [← HX.out]; exact hbit))
    have HB1 := Lib.hid (fun (e : fr = true) N => show E1 N = V g fr N (63 - k) (k + 1) s d from by rw [hE1]; exact if_pos e)
    have HB0 := Lib.hid (fun (e : fr = false) N => show E1 N = 0 from by rw [hE1]; exact if_neg (by rw [e]; simp))
    have HC1 := Lib.hid (fun (e : rx = true) N => show E2 N = V g fr N (63 - k) (k + 1) (s + 2 ^ x2) d2 from by rw [hE2]; exact if_pos e)
    have HC0 := Lib.hid (fun (e : rx = false) N => show E2 N = 0 from by rw [hE2]; exact if_neg (by rw [e]; simp))
    have HD1 := Lib.hid (fun (e : db = true) N => show E3 N = V g fr N (63 - k) (k + 1) (s + 2 ^ x) d2 from by rw [hE3]; exact if_pos e)
    have HD0 := Lib.hid (fun (e : db = false) N => show E3 N = 0 from by rw [hE3]; exact if_neg (by rw [e]; simp))
    have HRX := Lib.hid hrx
    have HRY := Lib.hid (fun (e : rx = true) => show (s + 2 ^ x2 < 256 ∧ Vd g (k + 1) (s + 2 ^ x2)) ∧ ∀ W, Calls Try.prog 104 #[.agg #[.int .i64 (s : Int), .int .i64 (d : Int)], .int .i64 (x2 : Int)] W (Pro ((s + 2 ^ x2 : Nat) : Int) (d2 : Int) W) from by
     obtain ⟨e1, e2, e3⟩ := hrx2.1 e
     have hx := HX.out
     rw [← hx] at e1 e3
     rw [← hx2] at e3
     have e4 : x2 < 8 := by omega
     refine ⟨⟨(bit_add s hs _ e4 e3).1, ?_⟩, fun W => by rw [hd2]; exact iWith s d x2 hs (by omega) e4 e3 W⟩
     rw [hx2] at e3 ⊢
     rw [hx] at e1 e3 ⊢
     exact Vd_rt HV.out hs (by rw [← hx]; exact hbit) e1 e3 e2)
    have HDY := Lib.hid (fun (e : db = true) => show (s + 2 ^ x < 256 ∧ Vd g (k + 1) (s + 2 ^ x)) ∧ ∀ W, Calls Try.prog 104 #[.agg #[.int .i64 (s : Int), .int .i64 (d : Int)], .int .i64 (x : Int)] W (Pro ((s + 2 ^ x : Nat) : Int) (d2 : Int) W) from by
     have hx := HX.out
     refine ⟨⟨(bit_add s hs _ hx8 hbit).1, ?_⟩, fun W => by rw [hd2]; exact iWith s d x hs (by omega) hx8 hbit W⟩
     rw [hx] at hbit ⊢
     exact Vd_dn HV.out hs hbit (HD.out.1 e))
    have HRB := Lib.hid (fun (e : rb = true) => show x2 < 8 from by have := HR.out.1 e; have := HX.out; omega)
    have hw2 : wrap64 ((x : Int) + 1) = (x2 : Int) := by unfold wrap64; omega
    have hw3 : IntKind.i64.wrap ((x : Int) + 1) = (x2 : Int) := by rw [wrap_is]; exact hw2
    have hdq : d2 < q + 2 := by omega
    clear hrx hrx2 hE1 hE2 hE3 HP HV hx2 hd2
    go_upto_if 46 with fail
    go_cut [] from 27 to 84 (fun wc => ∃ Dx, WP w (.slice A n cap) x y m m2 r Db left1 cnt1 p s d Dx wc ∧ PS g fr k q Db left1 Dx c (fun N => E2 N + E3 N))
    case first =>
     cases fr with
     | true =>
      have HP2 := Lib.hid (HP1.out.same (E' := fun N => V g true N (63 - k) (k + 1) s d + (E2 N + E3 N)) (fun N => by rw [HB1.out rfl]))
      go_wp2_with fail
      refine wp_region_noPanic ?_
      have T5 := T5.drew
      refine wp_region_held_drew (S := (fun w' => w'.cell? ⟨p, 0, none⟩ = some (.int .i64 (s : Int)) ∧ w'.cell? ⟨p, 1, none⟩ = some (.int .i64 (d : Int)) ∧ w'.cell? ⟨w.heap.size + 1, 0, none⟩ = some (.int .i64 (x : Int)))) (by kernel_rfl) (T5.reads) (fun hHeld => ?_)
      generalize World.drew _ = WR at T5 hHeld ⊢
      refine wpAnyH_take (i := 0) (v := ?_) rfl (by kernel_rfl) (by kernel_rfl) (by kernel_rfl) (fun _ _ _ h => h) (Or.inl ⟨by rfl, ?_⟩) (by assumption) ?_
      rotate_left
      ·(intro w' hS; (try dsimp only at hS); go_simp; try with_reducible rfl)
      try simp only [Act.put, List.getElem_toArray, List.getElem_cons_succ, List.getElem_cons_zero, List.setIfInBounds_toArray, List.set_cons_zero, List.set_cons_succ]
      refine wpAnyH_take (i := 1) (v := ?_) rfl (by kernel_rfl) (by kernel_rfl) (by kernel_rfl) (fun _ _ _ h => h) (Or.inl ⟨by rfl, ?_⟩) (by assumption) ?_
      rotate_left
      ·(intro w' hS; (try dsimp only at hS); go_simp; try with_reducible rfl)
      try simp only [Act.put, List.getElem_toArray, List.getElem_cons_succ, List.getElem_cons_zero, List.setIfInBounds_toArray, List.set_cons_zero, List.set_cons_succ]
      refine wpAnyH_take (i := 3) (v := ?_) rfl (by kernel_rfl) (by kernel_rfl) (by kernel_rfl) (fun _ _ _ h => h) (Or.inl ⟨by rfl, ?_⟩) (by assumption) ?_
      rotate_left
      ·(intro w' hS; (try dsimp only at hS); go_simp; try with_reducible rfl)
      try simp only [Act.put, List.getElem_toArray, List.getElem_cons_succ, List.getElem_cons_zero, List.setIfInBounds_toArray, List.set_cons_zero, List.set_cons_succ]

      obtain ⟨st, Wa, Wb, a, HRa⟩ := ra_of (s := s) (d := d) (c := c) T5.1.2.2.1 hs (show d < 70 by omega)
      obtain ⟨Dx, T9, P9⟩ := T5.up HRa HP2.out hq hs (by omega) HV1.out
      have HRb := HRa
      obtain ⟨l1, e1, l2, g1, es, g2, _⟩ := HRb
      have HT9 := Lib.hid T9
      have HP9 := Lib.hid P9
      clear T9 P9 HRa
      refine wpAnyH_ready (rs := [2, 5]) (by kernel_rfl) (by simp) ?_
      refine AllReadyH.cons rfl (fun K hK => ?_) (AllReadyH.cons rfl (fun K hK => ?_) AllReadyH.nil)
      ·go_simp
       refine hK.out _ _ (T5.reads) (fun hHeld => ?_)
       clear hK K
       try simp only [Act.put, List.getElem_toArray, List.getElem_cons_succ, List.getElem_cons_zero, List.setIfInBounds_toArray, List.set_cons_zero, List.set_cons_succ]
       refine wpAnyH_take (i := 4) (v := ?_) rfl (by kernel_rfl) (by kernel_rfl) (by kernel_rfl) (fun _ _ _ h => h) (Or.inl ⟨by rfl, ?_⟩) (by assumption) ?_
       rotate_left
       ·(intro w' hS; (try dsimp only at hS); go_simp; try with_reducible rfl)
       try simp only [Act.put, List.getElem_toArray, List.getElem_cons_succ, List.getElem_cons_zero, List.setIfInBounds_toArray, List.set_cons_zero, List.set_cons_succ]
       refine wpAnyH_ready (rs := [5]) (by kernel_rfl) (by simp) ?_
       refine AllReadyH.cons rfl (fun K hK => ?_) AllReadyH.nil
       go_simp
       refine hK.out _ _ (T5.keeps g1) (fun hHeld => ?_)
       clear hK K
       try simp only [Act.put, List.getElem_toArray, List.getElem_cons_succ, List.getElem_cons_zero, List.setIfInBounds_toArray, List.set_cons_zero, List.set_cons_succ]
       refine wpAnyH_take (i := 6) (v := ?_) rfl (by kernel_rfl) (by kernel_rfl) (by kernel_rfl) (fun _ _ _ h => h) (Or.inl ⟨by rfl, ?_⟩) (by assumption) ?_
       rotate_left
       ·(intro w' hS; (try dsimp only at hS); go_simp; try with_reducible rfl)
       try simp only [Act.put, List.getElem_toArray, List.getElem_cons_succ, List.getElem_cons_zero, List.setIfInBounds_toArray, List.set_cons_zero, List.set_cons_succ]
       refine wpAnyH_ready (rs := [7]) (by kernel_rfl) (by simp) ?_
       refine AllReadyH.cons rfl (fun K hK => ?_) AllReadyH.nil
       go_simp
       refine hK.out _ _ (T5.keeps g2) (fun hHeld => ?_)
       clear hK K
       try simp only [Act.put, List.getElem_toArray, List.getElem_cons_succ, List.getElem_cons_zero, List.setIfInBounds_toArray, List.set_cons_zero, List.set_cons_succ]
       refine wpAnyH_done (by kernel_rfl) ?_ _
       refine NoPanic.normal ?_
       have T9 := HT9.out
       have P9 := HP9.out
       go_wp2_with fail
       go_meet
       exact ⟨Dx, T9, P9⟩
      ·go_simp
       refine hK.out _ _ (T5.keeps g1) (fun hHeld => ?_)
       clear hK K
       try simp only [Act.put, List.getElem_toArray, List.getElem_cons_succ, List.getElem_cons_zero, List.setIfInBounds_toArray, List.set_cons_zero, List.set_cons_succ]
       refine wpAnyH_take (i := 6) (v := ?_) rfl (by kernel_rfl) (by kernel_rfl) (by kernel_rfl) (fun _ _ _ h => h) (Or.inl ⟨by rfl, ?_⟩) (by assumption) ?_
       rotate_left
       ·(intro w' hS; (try dsimp only at hS); go_simp; try with_reducible rfl)
       try simp only [Act.put, List.getElem_toArray, List.getElem_cons_succ, List.getElem_cons_zero, List.setIfInBounds_toArray, List.set_cons_zero, List.set_cons_succ]
       refine wpAnyH_ready (rs := [2]) (by kernel_rfl) (by simp) ?_
       refine AllReadyH.cons rfl (fun K hK => ?_) AllReadyH.nil
       go_simp
       refine hK.out _ _ (T5.keeps g1) (fun hHeld => ?_)
       clear hK K
       try simp only [Act.put, List.getElem_toArray, List.getElem_cons_succ, List.getElem_cons_zero, List.setIfInBounds_toArray, List.set_cons_zero, List.set_cons_succ]
       refine wpAnyH_take (i := 4) (v := ?_) rfl (by kernel_rfl) (by kernel_rfl) (by kernel_rfl) (fun _ _ _ h => h) (Or.inl ⟨by rfl, ?_⟩) (by assumption) ?_
       rotate_left
       ·(intro w' hS; (try dsimp only at hS); go_simp; try with_reducible rfl)
       try simp only [Act.put, List.getElem_toArray, List.getElem_cons_succ, List.getElem_cons_zero, List.setIfInBounds_toArray, List.set_cons_zero, List.set_cons_succ]
       refine wpAnyH_ready (rs := [7]) (by kernel_rfl) (by simp) ?_
       refine AllReadyH.cons rfl (fun K hK => ?_) AllReadyH.nil
       go_simp
       refine hK.out _ _ (T5.keeps g2) (fun hHeld => ?_)
       clear hK K
       try simp only [Act.put, List.getElem_toArray, List.getElem_cons_succ, List.getElem_cons_zero, List.setIfInBounds_toArray, List.set_cons_zero, List.set_cons_succ]
       refine wpAnyH_done (by kernel_rfl) ?_ _
       refine NoPanic.normal ?_
       have T9 := HT9.out
       have P9 := HP9.out
       go_wp2_with fail
       go_meet
       exact ⟨Dx, T9, P9⟩
     | false =>
      have HP2 := Lib.hid (HP1.out.same (E' := fun N => E2 N + E3 N) (fun N => by rw [HB0.out rfl, Nat.zero_add]))
      go_wp2_with fail
      go_meet
      exact ⟨Da, T5, HP2.out⟩
    case rest =>
     clear T5 HP1 HB1 HB0
     obtain ⟨Db1, T5, P5⟩ := hcut
     have HP1 := Lib.hid P5
     clear P5
     go_upto_region 10 with fail
     go_cut [62] from 27 to 84 (fun v wc => v = .bool rx ∧ WP w (.slice A n cap) x y m m2 r Db left1 cnt1 p s d Db1 wc)
     case first =>
      cases rb with
      | true =>
       obtain ⟨c0, c1, cx⟩ := T5.reads
       go_wp2_with fail
       refine (iCovers s d x2 hs (HRB.out (by trivial)) _).mono ?_
       rintro e w6 ⟨rfl, hb6⟩
       have T6 := T5.on hb6
       have hrx := HRX.out
       clear c0 c1 cx
       generalize s.testBit x2 = b2 at hrx ⊢
       subst hrx
       cases b2 with
       | true =>
        go_wp2_with fail
        go_meet
        exact ⟨rfl, T6⟩
       | false =>
        go_wp2_with fail
        go_meet
        exact ⟨rfl, T6⟩
      | false =>
       have hrx := HRX.out
       rw [Bool.false_and] at hrx
       subst hrx
       go_wp2_with fail
       go_meet
       exact ⟨rfl, T5⟩
     case rest =>
      clear T5
      obtain ⟨hu, T5⟩ := hcut
      subst hu
      go_upto_if 62 with fail
      go_cut [] from 27 to 84 (fun wc => ∃ Dx, WP w (.slice A n cap) x y m m2 r Db left1 cnt1 p s d Dx wc ∧ PS g fr k q Db left1 Dx c E3)
      case first =>
       cases rx with
       | true =>
        obtain ⟨⟨hs2, hv2⟩, hW2⟩ := HRY.out rfl
        have HWw := Lib.hid hW2
        have HP2 := Lib.hid (HP1.out.same (E' := fun N => V g fr N (63 - k) (k + 1) (s + 2 ^ x2) d2 + E3 N) (fun N => by rw [HC1.out rfl]))
        clear HC1 HC0 HRY hW2
        generalize s + 2 ^ x2 = s2 at hs2 hv2 HWw HP2
        have HV2 := Lib.hid hv2
        clear hv2
        go_wp2_with fail
        refine wp_region_noPanic ?_
        have T5 := T5.drew
        refine wp_region_held_drew (S := (fun w' => w'.cell? ⟨p, 0, none⟩ = some (.int .i64 (s : Int)) ∧ w'.cell? ⟨p, 1, none⟩ = some (.int .i64 (d : Int)) ∧ w'.cell? ⟨w.heap.size + 1, 0, none⟩ = some (.int .i64 (x : Int)))) (by kernel_rfl) (T5.reads) (fun hHeld => ?_)
        generalize World.drew _ = WR at T5 hHeld ⊢
        refine wpAnyH_take (i := 0) (v := ?_) rfl (by kernel_rfl) (by kernel_rfl) (by kernel_rfl) (fun _ _ _ h => h) (Or.inl ⟨by rfl, ?_⟩) (by assumption) ?_
        rotate_left
        ·(intro w' hS; (try dsimp only at hS); go_simp; try with_reducible rfl)
        try simp only [Act.put, List.getElem_toArray, List.getElem_cons_succ, List.getElem_cons_zero, List.setIfInBounds_toArray, List.set_cons_zero, List.set_cons_succ]
        refine wpAnyH_take (i := 1) (v := ?_) rfl (by kernel_rfl) (by kernel_rfl) (by kernel_rfl) (fun _ _ _ h => h) (Or.inl ⟨by rfl, ?_⟩) (by assumption) ?_
        rotate_left
        ·(intro w' hS; (try dsimp only at hS); go_simp; try with_reducible rfl)
        try simp only [Act.put, List.getElem_toArray, List.getElem_cons_succ, List.getElem_cons_zero, List.setIfInBounds_toArray, List.set_cons_zero, List.set_cons_succ]
        refine wpAnyH_take (i := 2) (v := ?_) rfl (by kernel_rfl) (by kernel_rfl) (by kernel_rfl) (fun _ _ _ h => h) (Or.inl ⟨by rfl, ?_⟩) (by assumption) ?_
        rotate_left
        ·(intro w' hS; (try dsimp only at hS); go_simp; try with_reducible rfl)
        try simp only [Act.put, List.getElem_toArray, List.getElem_cons_succ, List.getElem_cons_zero, List.setIfInBounds_toArray, List.set_cons_zero, List.set_cons_succ]
        refine wpAnyH_take (i := 3) (v := ?_) rfl (by kernel_rfl) (by kernel_rfl) (by kernel_rfl) (fun _ _ _ h => h) (Or.inl ⟨by rfl, ?_⟩) (by assumption) ?_
        rotate_left
        ·(intro w' hS; (try dsimp only at hS); go_simp; try with_reducible rfl)
        try simp only [Act.put, List.getElem_toArray, List.getElem_cons_succ, List.getElem_cons_zero, List.setIfInBounds_toArray, List.set_cons_zero, List.set_cons_succ]
        refine wpAnyH_take (i := 4) (v := ?_) rfl (by kernel_rfl) (by kernel_rfl) (by kernel_rfl) (fun _ _ _ h => h) (Or.inl ⟨by rfl, ?_⟩) (by assumption) ?_
        rotate_left
        ·(intro w' hS; (try dsimp only at hS); go_simp; try with_reducible rfl)
        try simp only [Act.put, List.getElem_toArray, List.getElem_cons_succ, List.getElem_cons_zero, List.setIfInBounds_toArray, List.set_cons_zero, List.set_cons_succ]
        refine wpAnyH_take (i := 7) (v := ?_) rfl (by kernel_rfl) (by kernel_rfl) (by kernel_rfl) (fun _ _ _ h => h) (Or.inl ⟨by rfl, ?_⟩) (by assumption) ?_
        rotate_left
        ·(intro w' hS; (try dsimp only at hS); go_simp; try with_reducible rfl)
        try simp only [Act.put, List.getElem_toArray, List.getElem_cons_succ, List.getElem_cons_zero, List.setIfInBounds_toArray, List.set_cons_zero, List.set_cons_succ]
        refine wpAnyH_ready (rs := [5]) (by kernel_rfl) (by simp) ?_
        refine AllReadyH.cons rfl (fun K hK => ?_) AllReadyH.nil
        go_simp
        refine (HWw.out _).mono ?_
        rintro e wx ⟨rfl, hbx⟩
        have T5 := T5.on hbx
        clear hbx
        go_wp2_with fail
        refine hK.out _ _ (T5.reads) (fun hHeld => ?_)
        clear hK K
        try simp only [Act.put, List.getElem_toArray, List.getElem_cons_succ, List.getElem_cons_zero, List.setIfInBounds_toArray, List.set_cons_zero, List.set_cons_succ]
        obtain ⟨st, Wa, Wb, a, HRa⟩ := ra_of (s := s2) (d := d2) (c := c) T5.1.2.2.1 hs2 (show d2 < 70 by omega)
        obtain ⟨Dx, T9, P9⟩ := T5.up HRa HP2.out hq hs2 (by omega) HV2.out
        have HRb := HRa
        obtain ⟨l1, e1, l2, g1, es, g2, _⟩ := HRb
        have HT9 := Lib.hid T9
        have HP9 := Lib.hid P9
        clear T9 P9 HRa
        refine wpAnyH_ready (rs := [6, 9]) (by kernel_rfl) (by simp) ?_
        refine AllReadyH.cons rfl (fun K hK => ?_) (AllReadyH.cons rfl (fun K hK => ?_) AllReadyH.nil)
        ·go_simp
         refine hK.out _ _ (T5.reads) (fun hHeld => ?_)
         clear hK K
         try simp only [Act.put, List.getElem_toArray, List.getElem_cons_succ, List.getElem_cons_zero, List.setIfInBounds_toArray, List.set_cons_zero, List.set_cons_succ]
         refine wpAnyH_take (i := 8) (v := ?_) rfl (by kernel_rfl) (by kernel_rfl) (by kernel_rfl) (fun _ _ _ h => h) (Or.inl ⟨by rfl, ?_⟩) (by assumption) ?_
         rotate_left
         ·(intro w' hS; (try dsimp only at hS); go_simp; try with_reducible rfl)
         try simp only [Act.put, List.getElem_toArray, List.getElem_cons_succ, List.getElem_cons_zero, List.setIfInBounds_toArray, List.set_cons_zero, List.set_cons_succ]
         refine wpAnyH_ready (rs := [9]) (by kernel_rfl) (by simp) ?_
         refine AllReadyH.cons rfl (fun K hK => ?_) AllReadyH.nil
         go_simp
         refine hK.out _ _ (T5.keeps g1) (fun hHeld => ?_)
         clear hK K
         try simp only [Act.put, List.getElem_toArray, List.getElem_cons_succ, List.getElem_cons_zero, List.setIfInBounds_toArray, List.set_cons_zero, List.set_cons_succ]
         refine wpAnyH_take (i := 10) (v := ?_) rfl (by kernel_rfl) (by kernel_rfl) (by kernel_rfl) (fun _ _ _ h => h) (Or.inl ⟨by rfl, ?_⟩) (by assumption) ?_
         rotate_left
         ·(intro w' hS; (try dsimp only at hS); go_simp; try with_reducible rfl)
         try simp only [Act.put, List.getElem_toArray, List.getElem_cons_succ, List.getElem_cons_zero, List.setIfInBounds_toArray, List.set_cons_zero, List.set_cons_succ]
         refine wpAnyH_ready (rs := [11]) (by kernel_rfl) (by simp) ?_
         refine AllReadyH.cons rfl (fun K hK => ?_) AllReadyH.nil
         go_simp
         refine hK.out _ _ (T5.keeps g2) (fun hHeld => ?_)
         clear hK K
         try simp only [Act.put, List.getElem_toArray, List.getElem_cons_succ, List.getElem_cons_zero, List.setIfInBounds_toArray, List.set_cons_zero, List.set_cons_succ]
         refine wpAnyH_done (by kernel_rfl) ?_ _
         refine NoPanic.normal ?_
         have T9 := HT9.out
         have P9 := HP9.out
         go_wp2_with fail
         go_meet
         exact ⟨Dx, T9, P9⟩
        ·go_simp
         refine hK.out _ _ (T5.keeps g1) (fun hHeld => ?_)
         clear hK K
         try simp only [Act.put, List.getElem_toArray, List.getElem_cons_succ, List.getElem_cons_zero, List.setIfInBounds_toArray, List.set_cons_zero, List.set_cons_succ]
         refine wpAnyH_take (i := 10) (v := ?_) rfl (by kernel_rfl) (by kernel_rfl) (by kernel_rfl) (fun _ _ _ h => h) (Or.inl ⟨by rfl, ?_⟩) (by assumption) ?_
         rotate_left
         ·(intro w' hS; (try dsimp only at hS); go_simp; try with_reducible rfl)
         try simp only [Act.put, List.getElem_toArray, List.getElem_cons_succ, List.getElem_cons_zero, List.setIfInBounds_toArray, List.set_cons_zero, List.set_cons_succ]
         refine wpAnyH_ready (rs := [6]) (by kernel_rfl) (by simp) ?_
         refine AllReadyH.cons rfl (fun K hK => ?_) AllReadyH.nil
         go_simp
         refine hK.out _ _ (T5.keeps g1) (fun hHeld => ?_)
         clear hK K
         try simp only [Act.put, List.getElem_toArray, List.getElem_cons_succ, List.getElem_cons_zero, List.setIfInBounds_toArray, List.set_cons_zero, List.set_cons_succ]
         refine wpAnyH_take (i := 8) (v := ?_) rfl (by kernel_rfl) (by kernel_rfl) (by kernel_rfl) (fun _ _ _ h => h) (Or.inl ⟨by rfl, ?_⟩) (by assumption) ?_
         rotate_left
         ·(intro w' hS; (try dsimp only at hS); go_simp; try with_reducible rfl)
         try simp only [Act.put, List.getElem_toArray, List.getElem_cons_succ, List.getElem_cons_zero, List.setIfInBounds_toArray, List.set_cons_zero, List.set_cons_succ]
         refine wpAnyH_ready (rs := [11]) (by kernel_rfl) (by simp) ?_
         refine AllReadyH.cons rfl (fun K hK => ?_) AllReadyH.nil
         go_simp
         refine hK.out _ _ (T5.keeps g2) (fun hHeld => ?_)
         clear hK K
         try simp only [Act.put, List.getElem_toArray, List.getElem_cons_succ, List.getElem_cons_zero, List.setIfInBounds_toArray, List.set_cons_zero, List.set_cons_succ]
         refine wpAnyH_done (by kernel_rfl) ?_ _
         refine NoPanic.normal ?_
         have T9 := HT9.out
         have P9 := HP9.out
         go_wp2_with fail
         go_meet
         exact ⟨Dx, T9, P9⟩
       | false =>
        have HP2 := Lib.hid (HP1.out.same (E' := E3) (fun N => by rw [HC0.out rfl, Nat.zero_add]))
        go_wp2_with fail
        go_meet
        exact ⟨Db1, T5, HP2.out⟩
      case rest =>
       clear T5 HP1 HC1 HC0 HRY HRX
       obtain ⟨Db2, T5, P5⟩ := hcut
       have HP1 := Lib.hid P5
       clear P5
       go_upto_if 74 with fail
       cases db with
       | true =>
        obtain ⟨⟨hs2, hv2⟩, hW2⟩ := HDY.out rfl
        have HWw := Lib.hid hW2
        have HP2 := Lib.hid (HP1.out.same (E' := fun N => V g fr N (63 - k) (k + 1) (s + 2 ^ x) d2 + 0) (fun N => by rw [HD1.out rfl]; rfl))
        clear HD1 HD0 HDY hW2
        generalize s + 2 ^ x = s2 at hs2 hv2 HWw HP2
        have HV2 := Lib.hid hv2
        clear hv2
        go_wp2_with fail
        refine wp_region_noPanic ?_
        have T5 := T5.drew
        refine wp_region_held_drew (S := (fun w' => w'.cell? ⟨p, 0, none⟩ = some (.int .i64 (s : Int)) ∧ w'.cell? ⟨p, 1, none⟩ = some (.int .i64 (d : Int)) ∧ w'.cell? ⟨w.heap.size + 1, 0, none⟩ = some (.int .i64 (x : Int)))) (by kernel_rfl) (T5.reads) (fun hHeld => ?_)
        generalize World.drew _ = WR at T5 hHeld ⊢
        refine wpAnyH_take (i := 0) (v := ?_) rfl (by kernel_rfl) (by kernel_rfl) (by kernel_rfl) (fun _ _ _ h => h) (Or.inl ⟨by rfl, ?_⟩) (by assumption) ?_
        rotate_left
        ·(intro w' hS; (try dsimp only at hS); go_simp; try with_reducible rfl)
        try simp only [Act.put, List.getElem_toArray, List.getElem_cons_succ, List.getElem_cons_zero, List.setIfInBounds_toArray, List.set_cons_zero, List.set_cons_succ]
        refine wpAnyH_take (i := 1) (v := ?_) rfl (by kernel_rfl) (by kernel_rfl) (by kernel_rfl) (fun _ _ _ h => h) (Or.inl ⟨by rfl, ?_⟩) (by assumption) ?_
        rotate_left
        ·(intro w' hS; (try dsimp only at hS); go_simp; try with_reducible rfl)
        try simp only [Act.put, List.getElem_toArray, List.getElem_cons_succ, List.getElem_cons_zero, List.setIfInBounds_toArray, List.set_cons_zero, List.set_cons_succ]
        refine wpAnyH_take (i := 2) (v := ?_) rfl (by kernel_rfl) (by kernel_rfl) (by kernel_rfl) (fun _ _ _ h => h) (Or.inl ⟨by rfl, ?_⟩) (by assumption) ?_
        rotate_left
        ·(intro w' hS; (try dsimp only at hS); go_simp; try with_reducible rfl)
        try simp only [Act.put, List.getElem_toArray, List.getElem_cons_succ, List.getElem_cons_zero, List.setIfInBounds_toArray, List.set_cons_zero, List.set_cons_succ]
        refine wpAnyH_take (i := 3) (v := ?_) rfl (by kernel_rfl) (by kernel_rfl) (by kernel_rfl) (fun _ _ _ h => h) (Or.inl ⟨by rfl, ?_⟩) (by assumption) ?_
        rotate_left
        ·(intro w' hS; (try dsimp only at hS); go_simp; try with_reducible rfl)
        try simp only [Act.put, List.getElem_toArray, List.getElem_cons_succ, List.getElem_cons_zero, List.setIfInBounds_toArray, List.set_cons_zero, List.set_cons_succ]
        refine wpAnyH_take (i := 6) (v := ?_) rfl (by kernel_rfl) (by kernel_rfl) (by kernel_rfl) (fun _ _ _ h => h) (Or.inl ⟨by rfl, ?_⟩) (by assumption) ?_
        rotate_left
        ·(intro w' hS; (try dsimp only at hS); go_simp; try with_reducible rfl)
        try simp only [Act.put, List.getElem_toArray, List.getElem_cons_succ, List.getElem_cons_zero, List.setIfInBounds_toArray, List.set_cons_zero, List.set_cons_succ]
        refine wpAnyH_ready (rs := [4]) (by kernel_rfl) (by simp) ?_
        refine AllReadyH.cons rfl (fun K hK => ?_) AllReadyH.nil
        go_simp
        refine (HWw.out _).mono ?_
        rintro e wx ⟨rfl, hbx⟩
        have T5 := T5.on hbx
        clear hbx
        go_wp2_with fail
        refine hK.out _ _ (T5.reads) (fun hHeld => ?_)
        clear hK K
        try simp only [Act.put, List.getElem_toArray, List.getElem_cons_succ, List.getElem_cons_zero, List.setIfInBounds_toArray, List.set_cons_zero, List.set_cons_succ]
        obtain ⟨st, Wa, Wb, a, HRa⟩ := ra_of (s := s2) (d := d2) (c := c) T5.1.2.2.1 hs2 (show d2 < 70 by omega)
        obtain ⟨Dx, T9, P9⟩ := T5.up HRa HP2.out hq hs2 (by omega) HV2.out
        have HRb := HRa
        obtain ⟨l1, e1, l2, g1, es, g2, _⟩ := HRb
        have HT9 := Lib.hid T9
        have HP9 := Lib.hid P9
        clear T9 P9 HRa
        refine wpAnyH_ready (rs := [5, 8]) (by kernel_rfl) (by simp) ?_
        refine AllReadyH.cons rfl (fun K hK => ?_) (AllReadyH.cons rfl (fun K hK => ?_) AllReadyH.nil)
        ·go_simp
         refine hK.out _ _ (T5.reads) (fun hHeld => ?_)
         clear hK K
         try simp only [Act.put, List.getElem_toArray, List.getElem_cons_succ, List.getElem_cons_zero, List.setIfInBounds_toArray, List.set_cons_zero, List.set_cons_succ]
         refine wpAnyH_take (i := 7) (v := ?_) rfl (by kernel_rfl) (by kernel_rfl) (by kernel_rfl) (fun _ _ _ h => h) (Or.inl ⟨by rfl, ?_⟩) (by assumption) ?_
         rotate_left
         ·(intro w' hS; (try dsimp only at hS); go_simp; try with_reducible rfl)
         try simp only [Act.put, List.getElem_toArray, List.getElem_cons_succ, List.getElem_cons_zero, List.setIfInBounds_toArray, List.set_cons_zero, List.set_cons_succ]
         refine wpAnyH_ready (rs := [8]) (by kernel_rfl) (by simp) ?_
         refine AllReadyH.cons rfl (fun K hK => ?_) AllReadyH.nil
         go_simp
         refine hK.out _ _ (T5.keeps g1) (fun hHeld => ?_)
         clear hK K
         try simp only [Act.put, List.getElem_toArray, List.getElem_cons_succ, List.getElem_cons_zero, List.setIfInBounds_toArray, List.set_cons_zero, List.set_cons_succ]
         refine wpAnyH_take (i := 9) (v := ?_) rfl (by kernel_rfl) (by kernel_rfl) (by kernel_rfl) (fun _ _ _ h => h) (Or.inl ⟨by rfl, ?_⟩) (by assumption) ?_
         rotate_left
         ·(intro w' hS; (try dsimp only at hS); go_simp; try with_reducible rfl)
         try simp only [Act.put, List.getElem_toArray, List.getElem_cons_succ, List.getElem_cons_zero, List.setIfInBounds_toArray, List.set_cons_zero, List.set_cons_succ]
         refine wpAnyH_ready (rs := [10]) (by kernel_rfl) (by simp) ?_
         refine AllReadyH.cons rfl (fun K hK => ?_) AllReadyH.nil
         go_simp
         refine hK.out _ _ (T5.keeps g2) (fun hHeld => ?_)
         clear hK K
         try simp only [Act.put, List.getElem_toArray, List.getElem_cons_succ, List.getElem_cons_zero, List.setIfInBounds_toArray, List.set_cons_zero, List.set_cons_succ]
         refine wpAnyH_done (by kernel_rfl) ?_ _
         refine NoPanic.normal ?_
         have T9 := HT9.out
         have P9 := HP9.out
         go_wp2
         go_roundw
         case rel => exact ⟨left1, cnt1, Dx, T9.1, P9.done HLK.out⟩
         case measure => rw [T9.1.2.1.left_eq, HM.out]; exact HLT.out
        ·go_simp
         refine hK.out _ _ (T5.keeps g1) (fun hHeld => ?_)
         clear hK K
         try simp only [Act.put, List.getElem_toArray, List.getElem_cons_succ, List.getElem_cons_zero, List.setIfInBounds_toArray, List.set_cons_zero, List.set_cons_succ]
         refine wpAnyH_take (i := 9) (v := ?_) rfl (by kernel_rfl) (by kernel_rfl) (by kernel_rfl) (fun _ _ _ h => h) (Or.inl ⟨by rfl, ?_⟩) (by assumption) ?_
         rotate_left
         ·(intro w' hS; (try dsimp only at hS); go_simp; try with_reducible rfl)
         try simp only [Act.put, List.getElem_toArray, List.getElem_cons_succ, List.getElem_cons_zero, List.setIfInBounds_toArray, List.set_cons_zero, List.set_cons_succ]
         refine wpAnyH_ready (rs := [5]) (by kernel_rfl) (by simp) ?_
         refine AllReadyH.cons rfl (fun K hK => ?_) AllReadyH.nil
         go_simp
         refine hK.out _ _ (T5.keeps g1) (fun hHeld => ?_)
         clear hK K
         try simp only [Act.put, List.getElem_toArray, List.getElem_cons_succ, List.getElem_cons_zero, List.setIfInBounds_toArray, List.set_cons_zero, List.set_cons_succ]
         refine wpAnyH_take (i := 7) (v := ?_) rfl (by kernel_rfl) (by kernel_rfl) (by kernel_rfl) (fun _ _ _ h => h) (Or.inl ⟨by rfl, ?_⟩) (by assumption) ?_
         rotate_left
         ·(intro w' hS; (try dsimp only at hS); go_simp; try with_reducible rfl)
         try simp only [Act.put, List.getElem_toArray, List.getElem_cons_succ, List.getElem_cons_zero, List.setIfInBounds_toArray, List.set_cons_zero, List.set_cons_succ]
         refine wpAnyH_ready (rs := [10]) (by kernel_rfl) (by simp) ?_
         refine AllReadyH.cons rfl (fun K hK => ?_) AllReadyH.nil
         go_simp
         refine hK.out _ _ (T5.keeps g2) (fun hHeld => ?_)
         clear hK K
         try simp only [Act.put, List.getElem_toArray, List.getElem_cons_succ, List.getElem_cons_zero, List.setIfInBounds_toArray, List.set_cons_zero, List.set_cons_succ]
         refine wpAnyH_done (by kernel_rfl) ?_ _
         refine NoPanic.normal ?_
         have T9 := HT9.out
         have P9 := HP9.out
         go_wp2
         go_roundw
         case rel => exact ⟨left1, cnt1, Dx, T9.1, P9.done HLK.out⟩
         case measure => rw [T9.1.2.1.left_eq, HM.out]; exact HLT.out
       | false =>
        have P9 := HP1.out.same (E' := fun _ => 0) (fun N => by rw [HD0.out rfl])
        go_wp2
        go_roundw
        case rel => exact ⟨left1, cnt1, Db2, T5.1, P9.done HLK.out⟩
        case measure => rw [T5.1.2.1.left_eq, HM.out]; exact HLT.out
end Go.Proofs.Ytjfagpmklifjlaa.Prof
