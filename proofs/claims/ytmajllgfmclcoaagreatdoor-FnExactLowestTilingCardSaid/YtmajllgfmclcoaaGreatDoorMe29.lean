/- ExL in one text. -/
import Derived.Test.YtmajllgfmclcoaaGreatDoorMe28
import Derived.Test.YtmajllgfmclcoaaGreatDoorMe00

namespace Go.Proofs.YtmajllgfmclcoaaGreatDoor.Ext
set_option linter.unusedVariables false
set_option linter.unusedSimpArgs false
set_option maxRecDepth 100000
open Go.RowKit Go.Proofs.YtmajllgfmclcoaaGreatDoor.Pure Go.Proofs.YtmajllgfmclcoaaGreatDoor.Cell Go.Proofs.YtmajllgfmclcoaaGreatDoor.Dom Go.Proofs.YtmajllgfmclcoaaGreatDoor.Dms Go.Proofs.YtmajllgfmclcoaaGreatDoor.Til Go.Proofs.YtmajllgfmclcoaaGreatDoor.Grd Go.Proofs.YtmajllgfmclcoaaGreatDoor.Dss Go.Proofs.YtmajllgfmclcoaaGreatDoor.Lis Go.Proofs.YtmajllgfmclcoaaGreatDoor.Sets Go.Joins
open Go.Proofs.YtmajllgfmclcoaaGreatDoor.Cnt (gR tiles gR_in gR_out)
open Go.Proofs.YtmajllgfmclcoaaGreatDoor.Reg hiding Yes

set_option maxHeartbeats 4000000 in
theorem ext_loop (xs : List Int) (ho : okR xs) (bN bT lim h : Nat) (hh : h = (cellsR xs).length / 2) (hlim : lim ≤ 1000) (f : Nat) (ih : ExtC xs bN bT lim h f) : ExtL xs bN bT lim h f := by
  intro W K q x Ts M k hst hx hbt hbg hk64 hk0 hf hTl hq hx0 hrun
  have HS := Lib.hid hst
  have hM32 : M.length ≤ 32 := by
    have := part_length (part_yes (okRB_of ho) hbg.1)
    omega
  obtain ⟨i0, hi, hz0, hz1, hz2⟩ := info_parts domInfo
  have HE : ∃ c, c = Lib.ctz 64 x ∧ c < 64 ∧ gM xs M c = true ∧ ∀ i, i < c → gM xs M i = false := by
    obtain ⟨a1, a2, a3⟩ := ctz_is hx0 hx
    exact ⟨_, rfl, a1, by rw [← hbt]; exact a2, fun i hi => by rw [← hbt]; exact a3 i hi⟩
  obtain ⟨c, hcz, hc64, hcg, hcf⟩ := HE
  have HFi := Lib.hid (show Calls Tryz.prog 111 #[.int .u64 (x : Int)] W (CelOf c W) by rw [hcz]; exact iFirst x hx0 hx W hst.tab)
  have HCt := Lib.hid (show cont xs M = pre xs M c 2 by rw [cont_step hc64 hcg hcf]; simp [pre])
  have HNo := Lib.hid (show ∀ r : Bool, r = decide (((Ts ++ cont xs M).take lim).length = Ts.length) → r = true → LsG (bt x) = [] from fun r hr h1 => by
    rw [h1] at hr
    have h2 := of_decide_eq_true hr.symm
    rw [List.length_take, List.length_append] at h2
    have h3 : (cont xs M).length = 0 := by omega
    have h4 := List.eq_nil_of_length_eq_zero h3
    unfold cont at h4
    rw [List.map_eq_nil_iff] at h4
    rw [hbt]; exact h4)
  have HHas := Lib.hid (fun b W => by have := iHas x hx (sx (plc c).1 b) (sy (plc c).2 b) W; rw [has_can hbt hc64 b] at this; exact this)
  have HGr := Lib.hid (fun t (ht : t < 2) => pre_grow (xs := xs) (M := M) (c := c) (lim := lim) (Ts := Ts) ht)
  have HIH := Lib.hid (show ∀ (b : Bool) (W : World) (K : Nat → Prop) (q : Nat) (Ts : List (List Dm)), canB xs M c b = true → St K bN bT lim h q Ts (M ++ [dmN c b]) W → Ts.length ≤ lim → q + U f ≤ 1099511627776 →
      Calls Tryz.prog 109 #[.int .u64 ((without x c (oth c b) : Nat) : Int), .pointer (some ⟨bT, 0, none⟩), .pointer (some ⟨bN, 0, none⟩), .pointer (some ⟨bT + 3, 0, none⟩), .pointer (some ⟨bT + 1, 0, none⟩), .pointer (some ⟨bT + 4, 0, none⟩)] W (Xt K bN bT lim h (q + U f) ((Ts ++ one xs M c b).take lim) (M ++ [dmN c b]) W) from fun b W K q Ts hc hst' hT hq' => by
    have hkc : k ≤ c := by
      by_cases q : k ≤ c
      · exact q
      · have := hk0 c (by omega); rw [hcg] at this; cases this
    have hB1 := (hbg.mono hkc).step ho hcg hc
    obtain ⟨l1, l2, l3⟩ := can_lt hc
    have hst2 : stepB xs M (dmN c b) = true := by
      have := hB1.1 M.length (by simp)
      rwa [stp_last] at this
    have hus := unc_step hst2
    have hz : ∀ i, i < c + 1 → gM xs (M ++ [dmN c b]) i = false := fun i hi => by
      rw [gM_snoc l1 l2, Bool.eq_false_iff, Ne, Cnt.rem_iff]
      rintro ⟨b1, b2, b3⟩
      rw [hcf i (by omega)] at b1; cases b1
    have hone : one xs M c b = cont xs (M ++ [dmN c b]) := by unfold one; rw [if_pos hc]
    rw [hone]
    exact ih W K q _ Ts (M ++ [dmN c b]) (c + 1) hst' (minus_lt hx) (without_bt hx hbt hc64 hc) hB1 (by omega) hz (by omega) hT hq')
  have HOth := Lib.hid (fun (b : Bool) (hc : canB xs M c b = true) => show oth c b < 64 ∧ sx (plc c).1 b = (plc (oth c b)).1 ∧ sy (plc c).2 b = (plc (oth c b)).2 from ⟨(can_lt hc).1, (oth_ok (can_lt hc).1 (can_lt hc).2.1).2⟩)
  have HUq := Lib.hid (show q + 2 * U f + 1 ≤ 1099511627776 ∧ q + 2 * U f + 1 = q + U (f + 1) by
    have e : U (f + 1) = 2 * U f + 1 := rfl
    omega)
  have hsm : Sm (plc c).1 ∧ Sm (plc c).2 := by unfold Sm plc; simp only; omega
  have HCel := Lib.hid (fun b W => iCells (plc c).1 (plc c).2 b hsm.1 hsm.2 W)
  have HDm := Lib.hid (show ∀ b, dmN c b = ((plc c).1, (plc c).2, b) from fun b => rfl)
  obtain ⟨A, cap, S, AL, cL, r⟩ := hst.rows
  have c0 := r.cT
  have c1 := hst.cN
  have c2 := hst.cH
  have he : ((Ts.length : Int) == (lim : Int)) = false := by simp; omega
  have hx1 : ((x : Int) == 0) = false := by simp; omega
  have hTs : Ts.length ≤ 1000 := by omega
  have HT0 := Lib.hid (show (Ts ++ pre xs M c 0).take lim = Ts by rw [show pre xs M c 0 = [] from rfl, List.append_nil, List.take_of_length_le (by omega)])
  clear ih hbt hbg hk64 hk0 hf hcz hcg hcf hh ho hx0 hsm hTl hst hq
  go_enter Tryz.func109, Tryz.ntmps109
  go_wp2_with fail
  refine HFi.out.mono ?_
  rintro e w1 ⟨rfl, hb1⟩
  have k1 := HS.out.on hb1
  have p1 := HS.out.kp hb1
  clear HFi c0 c1 c2 he r hb1 hrun hx1
  obtain ⟨cx, hcx⟩ : ∃ u, u = (plc c).1 := ⟨_, rfl⟩
  obtain ⟨cy, hcy⟩ : ∃ u, u = (plc c).2 := ⟨_, rfl⟩
  have HPl := Lib.hid (show plc c = (cx, cy) by rw [hcx, hcy])
  rw [← hcx, ← hcy] at HHas HOth HCel HDm ⊢
  clear hcx hcy
  obtain ⟨K', hK1, hK2, kb⟩ : ∃ K' : Nat → Prop, (∀ j, K j → K' j) ∧ K' w1.heap.size ∧ St K' bN bT lim h q Ts M (w1.alloc (.cells #[.int .i64 cx, .int .i64 cy] 79)) := ⟨_, fun j hj => .inl hj, .inr rfl, k1.box _⟩
  have Z1 := At2.new w1 cx cy
  have p2 := p1.trans (k1.kp (below_alloc1 w1 (.cells #[.int .i64 cx, .int .i64 cy] 79)))
  have HKK := Lib.hid (And.intro hK1 hK2)
  clear hK1 hK2
  go_upto_region 5 with fail
  generalize w1.alloc (.cells #[.int .i64 cx, .int .i64 cy] 79) = W1 at kb Z1 p2 ⊢
  generalize w1.heap.size = p at Z1 HKK ⊢
  have HKt := Lib.hid HS.out.kt
  clear k1 p1 HS
  have HZ := Lib.hid (fun W (hk : Kp K' W1 W) => show At2 W p cx cy from (hk.block p HKK.out.2).trans Z1)
  go_wp2_with fail
  go_loopw [35] (fun i wr => ∃ t : Nat, t ≤ 2 ∧ i = .int .i64 t ∧ St K' bN bT lim h (q + t * U f) ((Ts ++ pre xs M c t).take lim) M wr ∧ Kp K' W1 wr) (fun i _ => 2 - (intOf i).toNat)
  case atStart => exact ⟨0, by omega, rfl, by rw [show (Ts ++ pre xs M c 0).take lim = Ts from HT0.out]; exact kb.more (Nat.le_add_right _ _), Kp.refl _ _⟩
  case round =>
    clear kb Z1
    obtain ⟨t, ht, rfl, k1, p1⟩ := hrel
    by_cases ht2 : t < 2
    · have HG := Lib.hid (HGr.out t ht2)
      have hL : ((Ts ++ pre xs M c t).take lim).length ≤ lim := by rw [List.length_take]; omega
      generalize (Ts ++ pre xs M c t).take lim = L at k1 HG hL
      have hat := atBit ht2 wr
      obtain ⟨b, hb⟩ : ∃ b, b = decide (t = 1) := ⟨_, rfl⟩
      rw [← hb] at hat HG
      clear hb
      have Z2 := HZ.out _ p1
      have d0 := Z2.c0
      have d1 := Z2.c1
      have HCb := Lib.hid (fun W => HCel.out b W)
      have HHb := Lib.hid (fun W => HHas.out b W)
      have HOb := Lib.hid (fun h => HOth.out b h)
      have HIb := Lib.hid (fun W K q Ts h1 h2 h3 h4 => HIH.out b W K q Ts h1 h2 h3 h4)
      have HDb := Lib.hid (HDm.out b)
      have HQ2 := Lib.hid (show q + t * U f + U f ≤ 1099511627776 ∧ q + (t + 1) * U f = q + t * U f + U f by
        have h1 := HUq.out.1
        have h2 : (t + 1) * U f = t * U f + U f := by rw [Nat.add_mul, Nat.one_mul]
        have h3 : t * U f ≤ U f := by
          have : t * U f ≤ 1 * U f := Nat.mul_le_mul_right _ (by omega)
          omega
        omega)
      have HGs := Lib.hid (fun hno : canB xs M c b = false => show L = (Ts ++ pre xs M c (t + 1)).take lim by
        rw [← HG.out]; unfold one; rw [hno, if_neg (by simp), List.append_nil, List.take_of_length_le hL])
      generalize sx cx b = u at HCb HHb HOb
      generalize sy cy b = v at HCb HHb HOb
      clear HIH HDm HCel HHas HOth
      have k2 := k1.on (below_alloc1 wr (.cells #[.int .i64 cx, .int .i64 cy, .bool b] 63))
      have p3 := p1.trans (k1.kp (below_alloc1 wr (.cells #[.int .i64 cx, .int .i64 cy, .bool b] 63)))
      have Y3 := At3.new 63 wr cx cy b
      go_upto_region 9 with fail
      generalize wr.alloc (.cells #[.int .i64 cx, .int .i64 cy, .bool b] 63) = W3 at k2 p3 Y3 ⊢
      generalize wr.heap.size = pd at Y3 ⊢
      clear d0 d1 hat k1 p1 Z2
      have d0 := Y3.c0
      have d1 := Y3.c1
      have d2 := Y3.c2
      go_wp2_with fail
      refine (HCb.out _).mono ?_
      rintro e w4 ⟨rfl, hb4⟩
      have k4 := (k2.on hb4).on (below_alloc1 w4 (.cells #[.int .i64 cx, .int .i64 cy] 79))
      have p4 := (p3.trans (k2.kp hb4)).trans ((k2.on hb4).kp (below_alloc1 w4 (.cells #[.int .i64 cx, .int .i64 cy] 79)))
      have Y4 := (Y3.on hb4).on (below_alloc1 w4 (.cells #[.int .i64 cx, .int .i64 cy] 79))
      have hz4 : (w4.alloc (.cells #[.int .i64 cx, .int .i64 cy] 79)).heap.size = w4.heap.size + 1 := by simp
      clear k2 p3 Y3 d0 d1 d2 hb4 HCb
      go_upto_region 10 with fail
      generalize w4.alloc (.cells #[.int .i64 cx, .int .i64 cy] 79) = W4 at k4 p4 Y4 hz4 ⊢
      rw [← hz4]
      clear hz4
      obtain ⟨K2, hK1, hK2, k5⟩ : ∃ K2 : Nat → Prop, (∀ j, K' j → K2 j) ∧ K2 W4.heap.size ∧ St K2 bN bT lim h (q + t * U f) L M (W4.alloc (.cells #[.int .i64 u, .int .i64 v] 79)) := ⟨_, fun j hj => .inl hj, .inr rfl, k4.box _⟩
      have HK2 := Lib.hid (And.intro hK1 hK2)
      have p5 := p4.trans (k4.kp (below_alloc1 W4 (.cells #[.int .i64 u, .int .i64 v] 79)))
      have Y5 := Y4.on (below_alloc1 W4 (.cells #[.int .i64 u, .int .i64 v] 79))
      have X5 := At2.new W4 u v
      generalize W4.alloc (.cells #[.int .i64 u, .int .i64 v] 79) = W5 at k5 p5 Y5 X5 ⊢
      generalize W4.heap.size = px at X5 HK2 ⊢
      clear k4 p4 Y4 hK1 hK2
      have e0 := X5.c0
      have e1 := X5.c1
      go_wp2_with fail
      refine (HHb.out _).mono ?_
      rintro e w6 ⟨rfl, hb6⟩
      have k6 := k5.on hb6
      have p6 := p5.trans ((k5.kp hb6).less HK2.out.1)
      have Y6 := Y5.on hb6
      have X6 := X5.on hb6
      clear k5 p5 Y5 X5 e0 e1 hb6 HHb
      cases hcan : canB xs M c b with
      | false =>
        have HR := Lib.hid (show St K' bN bT lim h (q + (t + 1) * U f) ((Ts ++ pre xs M c (t + 1)).take lim) M w6 by
          rw [← HGs.out hcan, HQ2.out.2]
          exact (k6.more (Nat.le_add_right _ _)).less HK2.out.1 (HKK.out.1 _ HKt.out))
        clear k6 hcan HGs
        go_wp2
        go_roundw
        case rel => exact ⟨t + 1, by omega, by go_num, HR.out, p6⟩
        case measure => (simp [intOf] <;> omega)
      | true =>
        have HIc := Lib.hid (fun W q Ts h2 h3 h4 => HIb.out W K2 q Ts hcan h2 h3 h4)
        have HOc := Lib.hid (HOb.out hcan)
        have HGc := Lib.hid HG.out
        clear HIb HOb HGs HG
        obtain ⟨A6, cap6, S6, AL6, cL6, r6⟩ := k6.rows
        have g0 := r6.cL'
        have g1 := r6.fL
        have d0 := Y6.c0
        have d1 := Y6.c1
        have d2 := Y6.c2
        have r7 := r6.on (below_alloc1 w6 (.cells #[.int .i64 cx, .int .i64 cy, .bool b] 63))
        have k7 := k6.on (below_alloc1 w6 (.cells #[.int .i64 cx, .int .i64 cy, .bool b] 63))
        have p7 := p6.trans ((k6.kp (below_alloc1 w6 (.cells #[.int .i64 cx, .int .i64 cy, .bool b] 63))).less HK2.out.1)
        have X7 := X6.on (below_alloc1 w6 (.cells #[.int .i64 cx, .int .i64 cy, .bool b] 63))
        have hz7 : (w6.alloc (.cells #[.int .i64 cx, .int .i64 cy, .bool b] 63)).heap.size = w6.heap.size + 1 := by simp
        have h5 : bT + 5 ≤ w6.heap.size := by have := lt_of_block k6.ke; omega
        clear k6 p6 Y6 X6 hcan
        go_upto_region 12 with (first
          | (at_builtin
             go_must (refine wpList_append_lies _ rfl _ _ 27 rfl (bT + 5) 63 i0 (.agg #[.int .i64 0, .int .i64 0, .bool false]) 3 24 Tryz.underlying27 hi hz0 hz1 hz2 rfl (by decide) (.slice AL6 M.length cL6) M.length (rowM M) (by rfl) r7.oL ⟨w6.heap.size, 0, none⟩ 1 1 [.int .i64 cx, .int .i64 cy, .bool b] (by rfl) rfl (World.news_of_block (cs := #[.int .i64 cx, .int .i64 cy, .bool b]) (t := 63) (fr := (0, 0)) (heap_alloc_new w6 _)) (by simp [Value.oneCell']) (by omega) (by unfold maxLen; omega) (by omega) (by omega) _ rfl ?_)
             intro g7 c7 w7 hown7 hg7 hat7 hlt7
             obtain ⟨f0, f1⟩ := r7.grownL (row_low r7.oL) hg7))
        obtain ⟨k8, p8⟩ := k7.push r7 (d := (cx, cy, b)) (by rw [← ownBlock_slice AL6 M.length cL6]; exact hg7) (by rw [← ownBlock_slice AL6 M.length cL6]; exact hat7.imp Eq.symm id) hown7
        rw [← HDb.out] at k8
        have X8 : At2 _ px u v := (p8.block px HK2.out.2).trans X7
        have Z8 := HZ.out _ (p7.trans (p8.less HK2.out.1))
        have p9 := p7.trans (p8.less HK2.out.1)
        clear k7 p7 p8 X7 r7 r6 hown7 hg7 hat7 hlt7 f0 f1 g0 g1 hz7 h5
        generalize w7.setCell ⟨bT + 1, 0, none⟩ (.slice (some ⟨g7, 0, none⟩) (M.length + 1) c7) = W8 at k8 X8 Z8 p9 ⊢
        have k8 := k8.drew
        have p9 := p9.drew
        have X8 : At2 W8.drew px u v := X8
        have Z8 : At2 W8.drew p cx cy := Z8
        have HSt := Lib.hid (fun cp => iSetOf (W8.drew.alloc (.cells #[.int .i64 cx, .int .i64 cy, .int .i64 u, .int .i64 v] 79)) (some ⟨W8.drew.heap.size, 0, none⟩) 2 cp W8.drew.heap.size 0 [(cx, cy), (u, v)] [c, oth c b] (by rw [List.map_cons, List.map_cons, HPl.out, HOc.out.2.1, HOc.out.2.2]; rfl) (fun j hj => by
          rcases List.mem_cons.1 hj with e | e
          · rw [e]; exact hc64
          · rw [List.mem_singleton.1 e]; exact HOc.out.1) rfl (by omega) (fun _ => rfl) (two_cells W8.drew cx cy u v))
        rw [set_two] at HSt
        have hand := u64_andNot_nat x (2 ^ c ||| 2 ^ oth c b) hx (or_lt (one_lt hc64) (one_lt HOc.out.1))
        have hand : bits .andNot .u64 (x : Int) ((2 ^ c ||| 2 ^ oth c b : Nat) : Int) = ((without x c (oth c b) : Nat) : Int) := hand
        generalize without x c (oth c b) = y at hand HIc
        generalize (2 ^ c ||| 2 ^ oth c b) = z at hand HSt
        have k9 := k8.on (below_alloc1 W8.drew (.cells #[.int .i64 cx, .int .i64 cy, .int .i64 u, .int .i64 v] 79))
        have q9 := p9.trans ((k8.kp (below_alloc1 W8.drew (.cells #[.int .i64 cx, .int .i64 cy, .int .i64 u, .int .i64 v] 79))).less HK2.out.1)
        have X9 := X8.on (below_alloc1 W8.drew (.cells #[.int .i64 cx, .int .i64 cy, .int .i64 u, .int .i64 v] 79))
        have Z9 := Z8.on (below_alloc1 W8.drew (.cells #[.int .i64 cx, .int .i64 cy, .int .i64 u, .int .i64 v] 79))
        have hs0 : W8.drew.cell? ⟨bT + 4, 0, none⟩ = some (.func (.func 109) #[] (caps bN bT)) ∧ W8.drew.cell? ⟨p, 0, none⟩ = some (.int .i64 cx) ∧ W8.drew.cell? ⟨p, 1, none⟩ = some (.int .i64 cy) ∧ W8.drew.cell? ⟨px, 0, none⟩ = some (.int .i64 u) ∧ W8.drew.cell? ⟨px, 1, none⟩ = some (.int .i64 v) := ⟨k8.cE, Z8.c0, Z8.c1, X8.c0, X8.c1⟩
        have hs1 : (W8.drew.alloc (.cells #[.int .i64 cx, .int .i64 cy, .int .i64 u, .int .i64 v] 79)).cell? ⟨bT + 4, 0, none⟩ = some (.func (.func 109) #[] (caps bN bT)) ∧ (W8.drew.alloc (.cells #[.int .i64 cx, .int .i64 cy, .int .i64 u, .int .i64 v] 79)).cell? ⟨p, 0, none⟩ = some (.int .i64 cx) ∧ (W8.drew.alloc (.cells #[.int .i64 cx, .int .i64 cy, .int .i64 u, .int .i64 v] 79)).cell? ⟨p, 1, none⟩ = some (.int .i64 cy) ∧ (W8.drew.alloc (.cells #[.int .i64 cx, .int .i64 cy, .int .i64 u, .int .i64 v] 79)).cell? ⟨px, 0, none⟩ = some (.int .i64 u) ∧ (W8.drew.alloc (.cells #[.int .i64 cx, .int .i64 cy, .int .i64 u, .int .i64 v] 79)).cell? ⟨px, 1, none⟩ = some (.int .i64 v) := ⟨k9.cE, Z9.c0, Z9.c1, X9.c0, X9.c1⟩
        clear k8 p9 X8 Z8 HOc HPl
        go_region_held3 (fun w' => w'.cell? ⟨bT + 4, 0, none⟩ = some (.func (.func 109) #[] (caps bN bT)) ∧ w'.cell? ⟨p, 0, none⟩ = some (.int .i64 cx) ∧ w'.cell? ⟨p, 1, none⟩ = some (.int .i64 cy) ∧ w'.cell? ⟨px, 0, none⟩ = some (.int .i64 u) ∧ w'.cell? ⟨px, 1, none⟩ = some (.int .i64 v))
          (first
            | exact hs3
            | exact hs2
            | exact hs1
            | exact hs0
            | go_keep
            | fail)
          (first
            | (go_at_call 114
               go_must (refine (HSt.out _).mono ?_)
               rintro e w10 ⟨rfl, hb10⟩
               have k10 := k9.on hb10
               have q10 := q9.trans ((k9.kp hb10).less HK2.out.1)
               have X10 := X9.on hb10
               have Z10 := Z9.on hb10
               have hs2 : w10.cell? ⟨bT + 4, 0, none⟩ = some (.func (.func 109) #[] (caps bN bT)) ∧ w10.cell? ⟨p, 0, none⟩ = some (.int .i64 cx) ∧ w10.cell? ⟨p, 1, none⟩ = some (.int .i64 cy) ∧ w10.cell? ⟨px, 0, none⟩ = some (.int .i64 u) ∧ w10.cell? ⟨px, 1, none⟩ = some (.int .i64 v) := ⟨k10.cE, Z10.c0, Z10.c1, X10.c0, X10.c1⟩)
            | (go_at_call 109
               go_must (refine (HIc.out _ _ _ k10 hL HQ2.out.1).mono ?_)
               rintro e w11 ⟨rfl, k11, p11⟩
               have q11 := q10.trans (p11.less HK2.out.1)
               have X11 : At2 w11 px u v := (p11.block px HK2.out.2).trans X10
               have Z11 := HZ.out _ q11
               have hs3 : w11.cell? ⟨bT + 4, 0, none⟩ = some (.func (.func 109) #[] (caps bN bT)) ∧ w11.cell? ⟨p, 0, none⟩ = some (.int .i64 cx) ∧ w11.cell? ⟨p, 1, none⟩ = some (.int .i64 cy) ∧ w11.cell? ⟨px, 0, none⟩ = some (.int .i64 u) ∧ w11.cell? ⟨px, 1, none⟩ = some (.int .i64 v) := ⟨k11.cE, Z11.c0, Z11.c1, X11.c0, X11.c1⟩)
            | fail)
        clear hs0 hs1 hs2 hs3 k9 q9 X9 Z9 k10 q10 X10 Z10 X11 Z11 HSt hand
        obtain ⟨Ab, capb, Sb, ALb, cLb, r11⟩ := k11.rows
        obtain ⟨gb, hgb, hcb, hcb2⟩ := r11.last
        subst hgb
        obtain ⟨k12, p12⟩ := k11.pop r11
        have q12 := q11.trans (p12.less HK2.out.1)
        have HR := Lib.hid (show St K' bN bT lim h (q + (t + 1) * U f) ((Ts ++ pre xs M c (t + 1)).take lim) M (w11.setCell ⟨bT + 1, 0, none⟩ (.slice (some ⟨gb, 0, none⟩) M.length cLb)) by
          rw [← HGc.out, HQ2.out.2]
          exact k12.less HK2.out.1 (HKK.out.1 _ HKt.out))
        have g0 := r11.cL'
        have g1 := r11.fL
        rw [List.length_append, List.length_singleton] at g0
        obtain ⟨n1, hn1⟩ : ∃ n1, n1 = M.length + 1 := ⟨_, rfl⟩
        rw [← hn1] at g0 hcb
        have hw1 : wrap64 ((n1 : Int) - 1) = (M.length : Int) := by unfold wrap64; omega
        have hw2 : IntKind.i64.wrap ((n1 : Int) - 1) = (M.length : Int) := by rw [IntKind.wrap_i64]; omega
        have hMn : M.length ≤ cLb := by omega
        clear hn1 k11 p11 q11 k12 p12 r11 HGc HIc HDb
        go_wp2
        go_roundw
        case rel => exact ⟨t + 1, by omega, by go_num, HR.out, q12⟩
        case measure => (simp [intOf] <;> omega)
    · obtain rfl : t = 2 := by omega
      have hTk := HCt.out
      rw [← hTk] at k1
      have HN := HNo.out
      generalize hT' : (Ts ++ cont xs M).take lim = T' at k1 HN
      have HTe := Lib.hid hT'
      obtain ⟨Ab, capb, Sb, ALb, cLb, r1⟩ := k1.rows
      have g0 := r1.cT
      have g2 := k1.cH
      obtain ⟨n, D, hn, hown, hD⟩ := k1.km
      obtain ⟨r, hr⟩ : ∃ r : Bool, r = decide (T'.length = Ts.length) := ⟨_, rfl⟩
      have hNr := HN r hr
      have hrr : ((T'.length : Int) == (Ts.length : Int)) = r := by rw [hr, Bool.eq_iff_iff, beq_iff_eq, decide_eq_true_eq]; omega
      have HU1 := HUq.out
      have HUe := Lib.hid HU1.2
      have hnn : n < maxLen := by unfold maxLen; omega
      have HPut := Lib.hid (fun W2 ho' => MapOk.put (W' := W2) (r := r) hn hown hD hx ho' hNr)
      clear hD hNr HN hr hT' hTk HU1 hn
      go_wp2_with (at_mapUpdate; go_must (refine wpList_mapUpdate_own _ rfl _ _ _ 120 rfl 123 4 law um RE (bT + 2) n D rfl hown hnn _ _ (.int .u64 (x : Int)) rfl rfl (keyU hx) _ [] (plainElem_bool (H := Unit) ub r) ?_); intro w2 hown2 hg2)
      obtain ⟨k2, p2'⟩ := k1.note hg2 (HPut.out w2 hown2)
      have HX := Lib.hid (show Xt K bN bT lim h (q + U (f + 1)) ((Ts ++ cont xs M).take lim) M W (.returned (.tuple #[])) w2 by
        rw [HTe.out]
        exact ⟨rfl, by rw [← HUe.out]; exact k2.less HKK.out.1 HKt.out, p2.trans ((p1.trans p2').less HKK.out.1)⟩)
      clear k2 p2' hown2 hg2
      exact bodyPost_ret (v := .tuple #[]) (by simp [results, Tryz.results109, go_sem]) rfl HX.out
end Go.Proofs.YtmajllgfmclcoaaGreatDoor.Ext
