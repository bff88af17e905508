/- ExL, ExA in one text. -/
import Derived.Test.YtmajllgfmclcoaaGreatDoorMd23
import Derived.Test.YtmajllgfmclcoaaGreatDoorMd00
import Derived.Test.YtmajllgfmclcoaaGreatDoorMd09
import Derived.Laws.EntriesVeiled
set_option linter.unusedVariables false
set_option linter.unusedSimpArgs false
set_option maxRecDepth 100000
namespace Go.Proofs.YtmajllgfmclcoaaGreatDoor.Ext
open Go.RowKit Go.Proofs.YtmajllgfmclcoaaGreatDoor.Pure Go.Proofs.YtmajllgfmclcoaaGreatDoor.Cell Dom Dms Til Grd Dss Lis Sets Go.Joins
open Cnt (gR tiles gR_in gR_out)
open Reg hiding add_none
set_option maxHeartbeats 4000000 in
theorem ext_loop (xs : List Int) (ho : okR xs) (bN bT lim h : Nat) (hh : h = (cellsR xs).length / 2) (hlim : lim ≤ 1000) (f : Nat) (ih : ExtC xs bN bT lim h f) : ExtL xs bN bT lim h f := by
  intro W K q x Ts M k hst hx hbt hbg hk64 hk0 hf hTl hq hx0 hrun
  have HS := Lh hst
  have hM32 : M.length ≤ 32 := by
    have := part_length (part_yes (okRB_of ho) hbg.1)
    omega
  obtain ⟨i0, hi, hz0, hz1, hz2⟩ := info_parts domInfo
  have HE : ∃ c, c = Lib.ctz 64 x ∧ c < 64 ∧ gM xs M c = true ∧ ∀ i, i < c → gM xs M i = false := by
    obtain ⟨a1, a2, a3⟩ := ctz_is hx0 hx
    exact ⟨_, rfl, a1, by rw [← hbt]; exact a2, fun i hi => by rw [← hbt]; exact a3 i hi⟩
  obtain ⟨c, hcz, hc64, hcg, hcf⟩ := HE
  have HFi := Lh (show Calls Tryz.prog 111 #[.int .u64 (x : Int)] W (CelOf c W) by rw [hcz]; exact iFirst x hx0 hx W hst.tab)
  have HCt := Lh (show cont xs M = pre xs M c 2 by rw [cont_step hc64 hcg hcf]; simp [pre])
  have HNo := Lh (show ∀ r : Bool, r = decide (((Ts ++ cont xs M).take lim).length = Ts.length) → r = true → LsG (bt x) = [] from fun r hr h1 => by
    rw [h1] at hr
    have h2 := of_decide_eq_true hr.symm
    rw [List.length_take, List.length_append] at h2
    have h3 : (cont xs M).length = 0 := by omega
    have h4 := List.eq_nil_of_length_eq_zero h3
    unfold cont at h4
    rw [List.map_eq_nil_iff] at h4
    rw [hbt]; exact h4)
  have HHas := Lh (fun b W => by have := iHas x hx (sx (plc c).1 b) (sy (plc c).2 b) W; rw [has_can hbt hc64 b] at this; exact this)
  have HGr := Lh (fun t (ht : t < 2) => pre_grow (xs := xs) (M := M) (c := c) (lim := lim) (Ts := Ts) ht)
  have HIH := Lh (show ∀ (b : Bool) (W : World) (K : Nat → Prop) (q : Nat) (Ts : List (List Dm)), canB xs M c b = true → St K bN bT lim h q Ts (M ++ [dmN c b]) W → Ts.length ≤ lim → q + U f ≤ 1099511627776 →
      Calls Tryz.prog 109 #[.int .u64 ((without x c (oth c b) : Nat) : Int), .pointer (some ⟨bT, 0, none⟩), .pointer (some ⟨bN, 0, none⟩), .pointer (some ⟨bT + 3, 0, none⟩), .pointer (some ⟨bT + 1, 0, none⟩), .pointer (some ⟨bT + 4, 0, none⟩)] W (Xt K bN bT lim h (q + U f) ((Ts ++ one xs M c b).take lim) (M ++ [dmN c b]) W) from fun b W K q Ts hc hst' hT hq' => by
    have hkc : k ≤ c := by
      by_cases q : k ≤ c
      · exact q
      · have := hk0 c (by omega); rw [hcg] at this; cases this
    have hB1 := (hbg.mono hkc).step ho hcg hc
    obtain ⟨l1, l2, l3⟩ := can_lt hc
    have hst2 : stepB xs M (dmN c b) = true := by
      have := hB1.1 M.length (by simp)
      rwa [stp_last] at this
    have hus := unc_step hst2
    have hz : ∀ i, i < c + 1 → gM xs (M ++ [dmN c b]) i = false := fun i hi => by
      rw [gM_snoc l1 l2, Bool.eq_false_iff, Ne, Cnt.rem_iff]
      rintro ⟨b1, b2, b3⟩
      rw [hcf i (by omega)] at b1; cases b1
    have hone : one xs M c b = cont xs (M ++ [dmN c b]) := by unfold one; rw [if_pos hc]
    rw [hone]
    exact ih W K q _ Ts (M ++ [dmN c b]) (c + 1) hst' (minus_lt hx) (without_bt hx hbt hc64 hc) hB1 (by omega) hz (by omega) hT hq')
  have HOth := Lh (fun (b : Bool) (hc : canB xs M c b = true) => show oth c b < 64 ∧ sx (plc c).1 b = (plc (oth c b)).1 ∧ sy (plc c).2 b = (plc (oth c b)).2 from ⟨(can_lt hc).1, (oth_ok (can_lt hc).1 (can_lt hc).2.1).2⟩)
  have HUq := Lh (show q + 2 * U f + 1 ≤ 1099511627776 ∧ q + 2 * U f + 1 = q + U (f + 1) by
    have e : U (f + 1) = 2 * U f + 1 := rfl
    omega)
  have hsm : Sm (plc c).1 ∧ Sm (plc c).2 := by unfold Sm plc; simp only; omega
  have HCel := Lh (fun b W => iCells (plc c).1 (plc c).2 b hsm.1 hsm.2 W)
  have HDm := Lh (show ∀ b, dmN c b = ((plc c).1, (plc c).2, b) from fun b => rfl)
  obtain ⟨A, cap, S, AL, cL, r⟩ := hst.rows
  have c0 := r.cT
  have c1 := hst.cN
  have c2 := hst.cH
  have he : ((Ts.length : Int) == (lim : Int)) = false := by simp; omega
  have hx1 : ((x : Int) == 0) = false := by simp; omega
  have hTs : Ts.length ≤ 1000 := by omega
  have HT0 := Lh (show (Ts ++ pre xs M c 0).take lim = Ts by rw [show pre xs M c 0 = [] from rfl, List.append_nil, List.take_of_length_le (by omega)])
  clear ih hbt hbg hk64 hk0 hf hcz hcg hcf hh ho hx0 hsm hTl hst hq
  go_enter Tryz.func109, Tryz.ntmps109
  go_wp2_with fail
  refine HFi.out.mono ?_
  rintro e w1 ⟨rfl, hb1⟩
  have k1 := HS.out.on hb1
  have p1 := HS.out.kp hb1
  clear HFi c0 c1 c2 he r hb1 hrun hx1
  obtain ⟨cx, hcx⟩ : ∃ u, u = (plc c).1 := ⟨_, rfl⟩
  obtain ⟨cy, hcy⟩ : ∃ u, u = (plc c).2 := ⟨_, rfl⟩
  have HPl := Lh (show plc c = (cx, cy) by rw [hcx, hcy])
  rw [← hcx, ← hcy] at HHas HOth HCel HDm ⊢
  clear hcx hcy
  obtain ⟨K', hK1, hK2, kb⟩ : ∃ K' : Nat → Prop, (∀ j, K j → K' j) ∧ K' w1.heap.size ∧ St K' bN bT lim h q Ts M (w1.alloc (.cells #[.int .i64 cx, .int .i64 cy] 79)) := ⟨_, fun j hj => .inl hj, .inr rfl, k1.box _⟩
  have Z1 := At2.new w1 cx cy
  have p2 := p1.trans (k1.kp (below_alloc1 w1 (.cells #[.int .i64 cx, .int .i64 cy] 79)))
  have HKK := Lh (And.intro hK1 hK2)
  clear hK1 hK2
  go_upto_region 5 with fail
  generalize w1.alloc (.cells #[.int .i64 cx, .int .i64 cy] 79) = W1 at kb Z1 p2 ⊢
  generalize w1.heap.size = p at Z1 HKK ⊢
  have HKt := Lh HS.out.kt
  clear k1 p1 HS
  have HZ := Lh (fun W (hk : Kp K' W1 W) => show At2 W p cx cy from (hk.block p HKK.out.2).trans Z1)
  go_wp2_with fail
  go_loopw [35] (fun i wr => ∃ t : Nat, t ≤ 2 ∧ i = .int .i64 t ∧ St K' bN bT lim h (q + t * U f) ((Ts ++ pre xs M c t).take lim) M wr ∧ Kp K' W1 wr) (fun i _ => 2 - (intOf i).toNat)
  case atStart => exact ⟨0, by omega, rfl, by rw [show (Ts ++ pre xs M c 0).take lim = Ts from HT0.out]; exact kb.more (Nat.le_add_right _ _), Kp.refl _ _⟩
  case round =>
    clear kb Z1
    obtain ⟨t, ht, rfl, k1, p1⟩ := hrel
    by_cases ht2 : t < 2
    · have HG := Lh (HGr.out t ht2)
      have hL : ((Ts ++ pre xs M c t).take lim).length ≤ lim := by rw [List.length_take]; omega
      generalize (Ts ++ pre xs M c t).take lim = L at k1 HG hL
      have hat := atBit ht2 wr
      obtain ⟨b, hb⟩ : ∃ b, b = decide (t = 1) := ⟨_, rfl⟩
      rw [← hb] at hat HG
      clear hb
      have Z2 := HZ.out _ p1
      have d0 := Z2.c0
      have d1 := Z2.c1
      have HCb := Lh (fun W => HCel.out b W)
      have HHb := Lh (fun W => HHas.out b W)
      have HOb := Lh (fun h => HOth.out b h)
      have HIb := Lh (fun W K q Ts h1 h2 h3 h4 => HIH.out b W K q Ts h1 h2 h3 h4)
      have HDb := Lh (HDm.out b)
      have HQ2 := Lh (show q + t * U f + U f ≤ 1099511627776 ∧ q + (t + 1) * U f = q + t * U f + U f by
        have h1 := HUq.out.1
        have h2 : (t + 1) * U f = t * U f + U f := by rw [Nat.add_mul, Nat.one_mul]
        have h3 : t * U f ≤ U f := by
          have : t * U f ≤ 1 * U f := Nat.mul_le_mul_right _ (by omega)
          omega
        omega)
      have HGs := Lh (fun hno : canB xs M c b = false => show L = (Ts ++ pre xs M c (t + 1)).take lim by
        rw [← HG.out]; unfold one; rw [hno, if_neg (by simp), List.append_nil, List.take_of_length_le hL])
      generalize sx cx b = u at HCb HHb HOb
      generalize sy cy b = v at HCb HHb HOb
      clear HIH HDm HCel HHas HOth
      have k2 := k1.on (below_alloc1 wr (.cells #[.int .i64 cx, .int .i64 cy, .bool b] 63))
      have p3 := p1.trans (k1.kp (below_alloc1 wr (.cells #[.int .i64 cx, .int .i64 cy, .bool b] 63)))
      have Y3 := At3.new 63 wr cx cy b
      go_upto_region 9 with fail
      generalize wr.alloc (.cells #[.int .i64 cx, .int .i64 cy, .bool b] 63) = W3 at k2 p3 Y3 ⊢
      generalize wr.heap.size = pd at Y3 ⊢
      clear d0 d1 hat k1 p1 Z2
      have d0 := Y3.c0
      have d1 := Y3.c1
      have d2 := Y3.c2
      go_wp2_with fail
      refine (HCb.out _).mono ?_
      rintro e w4 ⟨rfl, hb4⟩
      have k4 := (k2.on hb4).on (below_alloc1 w4 (.cells #[.int .i64 cx, .int .i64 cy] 79))
      have p4 := (p3.trans (k2.kp hb4)).trans ((k2.on hb4).kp (below_alloc1 w4 (.cells #[.int .i64 cx, .int .i64 cy] 79)))
      have Y4 := (Y3.on hb4).on (below_alloc1 w4 (.cells #[.int .i64 cx, .int .i64 cy] 79))
      have hz4 : (w4.alloc (.cells #[.int .i64 cx, .int .i64 cy] 79)).heap.size = w4.heap.size + 1 := by simp
      clear k2 p3 Y3 d0 d1 d2 hb4 HCb
      go_upto_region 10 with fail
      generalize w4.alloc (.cells #[.int .i64 cx, .int .i64 cy] 79) = W4 at k4 p4 Y4 hz4 ⊢
      rw [← hz4]
      clear hz4
      obtain ⟨K2, hK1, hK2, k5⟩ : ∃ K2 : Nat → Prop, (∀ j, K' j → K2 j) ∧ K2 W4.heap.size ∧ St K2 bN bT lim h (q + t * U f) L M (W4.alloc (.cells #[.int .i64 u, .int .i64 v] 79)) := ⟨_, fun j hj => .inl hj, .inr rfl, k4.box _⟩
      have HK2 := Lh (And.intro hK1 hK2)
      have p5 := p4.trans (k4.kp (below_alloc1 W4 (.cells #[.int .i64 u, .int .i64 v] 79)))
      have Y5 := Y4.on (below_alloc1 W4 (.cells #[.int .i64 u, .int .i64 v] 79))
      have X5 := At2.new W4 u v
      generalize W4.alloc (.cells #[.int .i64 u, .int .i64 v] 79) = W5 at k5 p5 Y5 X5 ⊢
      generalize W4.heap.size = px at X5 HK2 ⊢
      clear k4 p4 Y4 hK1 hK2
      have e0 := X5.c0
      have e1 := X5.c1
      go_wp2_with fail
      refine (HHb.out _).mono ?_
      rintro e w6 ⟨rfl, hb6⟩
      have k6 := k5.on hb6
      have p6 := p5.trans ((k5.kp hb6).less HK2.out.1)
      have Y6 := Y5.on hb6
      have X6 := X5.on hb6
      clear k5 p5 Y5 X5 e0 e1 hb6 HHb
      cases hcan : canB xs M c b with
      | false =>
        have HR := Lh (show St K' bN bT lim h (q + (t + 1) * U f) ((Ts ++ pre xs M c (t + 1)).take lim) M w6 by
          rw [← HGs.out hcan, HQ2.out.2]
          exact (k6.more (Nat.le_add_right _ _)).less HK2.out.1 (HKK.out.1 _ HKt.out))
        clear k6 hcan HGs
        go_wp2
        go_roundw
        case rel => exact ⟨t + 1, by omega, by go_num, HR.out, p6⟩
        case measure => (simp [intOf] <;> omega)
      | true =>
        have HIc := Lh (fun W q Ts h2 h3 h4 => HIb.out W K2 q Ts hcan h2 h3 h4)
        have HOc := Lh (HOb.out hcan)
        have HGc := Lh HG.out
        clear HIb HOb HGs HG
        obtain ⟨A6, cap6, S6, AL6, cL6, r6⟩ := k6.rows
        have g0 := r6.cL'
        have g1 := r6.fL
        have d0 := Y6.c0
        have d1 := Y6.c1
        have d2 := Y6.c2
        have r7 := r6.on (below_alloc1 w6 (.cells #[.int .i64 cx, .int .i64 cy, .bool b] 63))
        have k7 := k6.on (below_alloc1 w6 (.cells #[.int .i64 cx, .int .i64 cy, .bool b] 63))
        have p7 := p6.trans ((k6.kp (below_alloc1 w6 (.cells #[.int .i64 cx, .int .i64 cy, .bool b] 63))).less HK2.out.1)
        have X7 := X6.on (below_alloc1 w6 (.cells #[.int .i64 cx, .int .i64 cy, .bool b] 63))
        have hz7 : (w6.alloc (.cells #[.int .i64 cx, .int .i64 cy, .bool b] 63)).heap.size = w6.heap.size + 1 := by simp
        have h5 : bT + 5 ≤ w6.heap.size := by have := lt_of_block k6.ke; omega
        clear k6 p6 Y6 X6 hcan
        go_upto_region 12 with (first
          | (at_builtin
             go_must (refine wpList_append_lies _ rfl _ _ 27 rfl (bT + 5) 63 i0 (.agg #[.int .i64 0, .int .i64 0, .bool false]) 3 24 Tryz.underlying27 hi hz0 hz1 hz2 rfl (by decide) (.slice AL6 M.length cL6) M.length (rowM M) (by rfl) r7.oL ⟨w6.heap.size, 0, none⟩ 1 1 [.int .i64 cx, .int .i64 cy, .bool b] (by rfl) rfl (World.news_of_block (cs := #[.int .i64 cx, .int .i64 cy, .bool b]) (t := 63) (fr := (0, 0)) (heap_alloc_new w6 _)) (by simp [Value.oneCell']) (by omega) (by unfold maxLen; omega) (by omega) (by omega) _ rfl ?_)
             intro g7 c7 w7 hown7 hg7 hat7 hlt7
             obtain ⟨f0, f1⟩ := r7.grownL (row_low r7.oL) hg7))
        obtain ⟨k8, p8⟩ := k7.push r7 (d := (cx, cy, b)) (by rw [← ownBlock_slice AL6 M.length cL6]; exact hg7) (by rw [← ownBlock_slice AL6 M.length cL6]; exact hat7.imp Eq.symm id) hown7
        rw [← HDb.out] at k8
        have X8 : At2 _ px u v := (p8.block px HK2.out.2).trans X7
        have Z8 := HZ.out _ (p7.trans (p8.less HK2.out.1))
        have p9 := p7.trans (p8.less HK2.out.1)
        clear k7 p7 p8 X7 r7 r6 hown7 hg7 hat7 hlt7 f0 f1 g0 g1 hz7 h5
        generalize w7.setCell ⟨bT + 1, 0, none⟩ (.slice (some ⟨g7, 0, none⟩) (M.length + 1) c7) = W8 at k8 X8 Z8 p9 ⊢
        have k8 := k8.drew
        have p9 := p9.drew
        have X8 : At2 W8.drew px u v := X8
        have Z8 : At2 W8.drew p cx cy := Z8
        have HSt := Lh (fun cp => iSetOf (W8.drew.alloc (.cells #[.int .i64 cx, .int .i64 cy, .int .i64 u, .int .i64 v] 79)) (some ⟨W8.drew.heap.size, 0, none⟩) 2 cp W8.drew.heap.size 0 [(cx, cy), (u, v)] [c, oth c b] (by rw [List.map_cons, List.map_cons, HPl.out, HOc.out.2.1, HOc.out.2.2]; rfl) (fun j hj => by
          rcases List.mem_cons.1 hj with e | e
          · rw [e]; exact hc64
          · rw [List.mem_singleton.1 e]; exact HOc.out.1) rfl (by omega) (fun _ => rfl) (two_cells W8.drew cx cy u v))
        rw [set_two] at HSt
        have hand := u64_andNot_nat x (2 ^ c ||| 2 ^ oth c b) hx (or_lt (one_lt hc64) (one_lt HOc.out.1))
        have hand : bits .andNot .u64 (x : Int) ((2 ^ c ||| 2 ^ oth c b : Nat) : Int) = ((without x c (oth c b) : Nat) : Int) := hand
        generalize without x c (oth c b) = y at hand HIc
        generalize (2 ^ c ||| 2 ^ oth c b) = z at hand HSt
        have k9 := k8.on (below_alloc1 W8.drew (.cells #[.int .i64 cx, .int .i64 cy, .int .i64 u, .int .i64 v] 79))
        have q9 := p9.trans ((k8.kp (below_alloc1 W8.drew (.cells #[.int .i64 cx, .int .i64 cy, .int .i64 u, .int .i64 v] 79))).less HK2.out.1)
        have X9 := X8.on (below_alloc1 W8.drew (.cells #[.int .i64 cx, .int .i64 cy, .int .i64 u, .int .i64 v] 79))
        have Z9 := Z8.on (below_alloc1 W8.drew (.cells #[.int .i64 cx, .int .i64 cy, .int .i64 u, .int .i64 v] 79))
        have hs0 : W8.drew.cell? ⟨bT + 4, 0, none⟩ = some (.func (.func 109) #[] (caps bN bT)) ∧ W8.drew.cell? ⟨p, 0, none⟩ = some (.int .i64 cx) ∧ W8.drew.cell? ⟨p, 1, none⟩ = some (.int .i64 cy) ∧ W8.drew.cell? ⟨px, 0, none⟩ = some (.int .i64 u) ∧ W8.drew.cell? ⟨px, 1, none⟩ = some (.int .i64 v) := ⟨k8.cE, Z8.c0, Z8.c1, X8.c0, X8.c1⟩
        have hs1 : (W8.drew.alloc (.cells #[.int .i64 cx, .int .i64 cy, .int .i64 u, .int .i64 v] 79)).cell? ⟨bT + 4, 0, none⟩ = some (.func (.func 109) #[] (caps bN bT)) ∧ (W8.drew.alloc (.cells #[.int .i64 cx, .int .i64 cy, .int .i64 u, .int .i64 v] 79)).cell? ⟨p, 0, none⟩ = some (.int .i64 cx) ∧ (W8.drew.alloc (.cells #[.int .i64 cx, .int .i64 cy, .int .i64 u, .int .i64 v] 79)).cell? ⟨p, 1, none⟩ = some (.int .i64 cy) ∧ (W8.drew.alloc (.cells #[.int .i64 cx, .int .i64 cy, .int .i64 u, .int .i64 v] 79)).cell? ⟨px, 0, none⟩ = some (.int .i64 u) ∧ (W8.drew.alloc (.cells #[.int .i64 cx, .int .i64 cy, .int .i64 u, .int .i64 v] 79)).cell? ⟨px, 1, none⟩ = some (.int .i64 v) := ⟨k9.cE, Z9.c0, Z9.c1, X9.c0, X9.c1⟩
        clear k8 p9 X8 Z8 HOc HPl
        go_region_held3 (fun w' => w'.cell? ⟨bT + 4, 0, none⟩ = some (.func (.func 109) #[] (caps bN bT)) ∧ w'.cell? ⟨p, 0, none⟩ = some (.int .i64 cx) ∧ w'.cell? ⟨p, 1, none⟩ = some (.int .i64 cy) ∧ w'.cell? ⟨px, 0, none⟩ = some (.int .i64 u) ∧ w'.cell? ⟨px, 1, none⟩ = some (.int .i64 v))
          (first
            | exact hs3
            | exact hs2
            | exact hs1
            | exact hs0
            | go_keep
            | fail)
          (first
            | (go_at_call 114
               go_must (refine (HSt.out _).mono ?_)
               rintro e w10 ⟨rfl, hb10⟩
               have k10 := k9.on hb10
               have q10 := q9.trans ((k9.kp hb10).less HK2.out.1)
               have X10 := X9.on hb10
               have Z10 := Z9.on hb10
               have hs2 : w10.cell? ⟨bT + 4, 0, none⟩ = some (.func (.func 109) #[] (caps bN bT)) ∧ w10.cell? ⟨p, 0, none⟩ = some (.int .i64 cx) ∧ w10.cell? ⟨p, 1, none⟩ = some (.int .i64 cy) ∧ w10.cell? ⟨px, 0, none⟩ = some (.int .i64 u) ∧ w10.cell? ⟨px, 1, none⟩ = some (.int .i64 v) := ⟨k10.cE, Z10.c0, Z10.c1, X10.c0, X10.c1⟩)
            | (go_at_call 109
               go_must (refine (HIc.out _ _ _ k10 hL HQ2.out.1).mono ?_)
               rintro e w11 ⟨rfl, k11, p11⟩
               have q11 := q10.trans (p11.less HK2.out.1)
               have X11 : At2 w11 px u v := (p11.block px HK2.out.2).trans X10
               have Z11 := HZ.out _ q11
               have hs3 : w11.cell? ⟨bT + 4, 0, none⟩ = some (.func (.func 109) #[] (caps bN bT)) ∧ w11.cell? ⟨p, 0, none⟩ = some (.int .i64 cx) ∧ w11.cell? ⟨p, 1, none⟩ = some (.int .i64 cy) ∧ w11.cell? ⟨px, 0, none⟩ = some (.int .i64 u) ∧ w11.cell? ⟨px, 1, none⟩ = some (.int .i64 v) := ⟨k11.cE, Z11.c0, Z11.c1, X11.c0, X11.c1⟩)
            | fail)
        clear hs0 hs1 hs2 hs3 k9 q9 X9 Z9 k10 q10 X10 Z10 X11 Z11 HSt hand
        obtain ⟨Ab, capb, Sb, ALb, cLb, r11⟩ := k11.rows
        obtain ⟨gb, hgb, hcb, hcb2⟩ := r11.last
        subst hgb
        obtain ⟨k12, p12⟩ := k11.pop r11
        have q12 := q11.trans (p12.less HK2.out.1)
        have HR := Lh (show St K' bN bT lim h (q + (t + 1) * U f) ((Ts ++ pre xs M c (t + 1)).take lim) M (w11.setCell ⟨bT + 1, 0, none⟩ (.slice (some ⟨gb, 0, none⟩) M.length cLb)) by
          rw [← HGc.out, HQ2.out.2]
          exact k12.less HK2.out.1 (HKK.out.1 _ HKt.out))
        have g0 := r11.cL'
        have g1 := r11.fL
        rw [List.length_append, List.length_singleton] at g0
        obtain ⟨n1, hn1⟩ : ∃ n1, n1 = M.length + 1 := ⟨_, rfl⟩
        rw [← hn1] at g0 hcb
        have hw1 : wrap64 ((n1 : Int) - 1) = (M.length : Int) := by unfold wrap64; omega
        have hw2 : IntKind.i64.wrap ((n1 : Int) - 1) = (M.length : Int) := by rw [IntKind.wrap_i64]; omega
        have hMn : M.length ≤ cLb := by omega
        clear hn1 k11 p11 q11 k12 p12 r11 HGc HIc HDb
        go_wp2
        go_roundw
        case rel => exact ⟨t + 1, by omega, by go_num, HR.out, q12⟩
        case measure => (simp [intOf] <;> omega)
    · obtain rfl : t = 2 := by omega
      have hTk := HCt.out
      rw [← hTk] at k1
      have HN := HNo.out
      generalize hT' : (Ts ++ cont xs M).take lim = T' at k1 HN
      have HTe := Lh hT'
      obtain ⟨Ab, capb, Sb, ALb, cLb, r1⟩ := k1.rows
      have g0 := r1.cT
      have g2 := k1.cH
      obtain ⟨n, D, hn, hown, hD⟩ := k1.km
      obtain ⟨r, hr⟩ : ∃ r : Bool, r = decide (T'.length = Ts.length) := ⟨_, rfl⟩
      have hNr := HN r hr
      have hrr : ((T'.length : Int) == (Ts.length : Int)) = r := by rw [hr, Bool.eq_iff_iff, beq_iff_eq, decide_eq_true_eq]; omega
      have HU1 := HUq.out
      have HUe := Lh HU1.2
      have hnn : n < maxLen := by unfold maxLen; omega
      have HPut := Lh (fun W2 ho' => MapOk.put (W' := W2) (r := r) hn hown hD hx ho' hNr)
      clear hD hNr HN hr hT' hTk HU1 hn
      go_wp2_with (at_mapUpdate; go_must (refine wpList_mapUpdate_own _ rfl _ _ _ 120 rfl 123 4 law um RE (bT + 2) n D rfl hown hnn _ _ (.int .u64 (x : Int)) rfl rfl (keyU hx) _ [] (plainElem_bool (H := Unit) ub r) ?_); intro w2 hown2 hg2)
      obtain ⟨k2, p2'⟩ := k1.note hg2 (HPut.out w2 hown2)
      have HX := Lh (show Xt K bN bT lim h (q + U (f + 1)) ((Ts ++ cont xs M).take lim) M W (.returned (.tuple #[])) w2 by
        rw [HTe.out]
        exact ⟨rfl, by rw [← HUe.out]; exact k2.less HKK.out.1 HKt.out, p2.trans ((p1.trans p2').less HKK.out.1)⟩)
      clear k2 p2' hown2 hg2
      exact bodyPost_ret (v := .tuple #[]) (by simp [results, Tryz.results109, go_sem]) rfl HX.out
end Go.Proofs.YtmajllgfmclcoaaGreatDoor.Ext
namespace Go.Proofs.YtmajllgfmclcoaaGreatDoor.Ext
open Go.RowKit Go.Proofs.YtmajllgfmclcoaaGreatDoor.Pure Cels Dms Til Dss Lis Sets Go.Joins
open Cnt (gR tiles gR_in gR_out idxs idxs_cells)
open Reg hiding add_none
theorem iExtend (xs : List Int) (ho : okR xs) (bN bT lim h : Nat) (hh : h = (cellsR xs).length / 2) (hlim : lim ≤ 1000) : ∀ f, ExtC xs bN bT lim h f
  | 0 => fun W K q x Ts M k _ _ _ _ _ _ hf => by omega
  | f + 1 => ext_leaf xs ho bN bT lim h hh hlim f (Lh (ext_loop xs ho bN bT lim h hh hlim f (iExtend xs ho bN bT lim h hh hlim f)))
def allR (xs : List Int) : List (List Dm) := if okR xs then allT xs else []
theorem allR_ok {xs : List Int} (h : okR xs) : allR xs = allT xs := if_pos h
theorem allR_not {xs : List Int} (h : ¬ okR xs) : allR xs = [] := if_neg h
def halfR (xs : List Int) : Nat := (cellsR xs).length / 2
theorem allR_half {xs : List Int} : ∀ L ∈ allR xs, L.length = halfR xs := by
  intro L hL
  by_cases h : okR xs
  · rw [allR_ok h] at hL; exact all_half h L hL
  · rw [allR_not h] at hL; cases hL
def SSP (L : List (List Dm)) (h : Nat) (w : World) (e : Ending) (w' : World) : Prop := ∃ A cap, e = .returned (.slice A L.length cap) ∧ SSIn w' w.heap.size w'.heap.size A L.length cap h L ∧ Below w.heap.size w w'
theorem ss_nil (w : World) (lo hi h : Nat) : SSIn w lo hi none 0 0 h [] := ⟨[], ⟨⟨rfl, .inl ⟨rfl, rfl⟩⟩, fun g hg => by cases hg⟩, Ins.nil _ _ _ _⟩
theorem set_idxs (xs : List Int) : bt (setN (idxs xs)) = gR xs := by
  funext i
  rw [bt_set]
  unfold idxs
  by_cases h : gR xs i = true
  · have h64 : i < 64 := by
      by_cases q : i < 64
      · exact q
      · rw [gR_out xs i (by omega)] at h; cases h
    rw [h, decide_eq_true_eq]
    exact List.mem_filter.2 ⟨List.mem_range.2 h64, h⟩
  · have h : gR xs i = false := by simpa using h
    rw [h, decide_eq_false_iff_not]
    intro hm
    rw [(List.mem_filter.1 hm).2] at h; cases h
theorem idxs_lt {xs : List Int} : ∀ j ∈ idxs xs, j < 64 := fun j hj => List.mem_range.1 (List.mem_filter.1 hj).1
theorem U33 : U 33 = 8589934591 := by decide +kernel
theorem st_start (w w1 : World) (lim h : Nat) (hT : Tab w) (z : Value) (hw1 : Below w.heap.size w w1) (hN : w1.heap[w.heap.size + 1]? = some (.cells #[.int .i64 (lim : Int)] 3)) :
    St (fun j => j ≤ w.heap.size) (w.heap.size + 1) w1.heap.size lim h 0 [] [] ((((((w1.alloc (.cells #[.slice none 0 0] TLs)).alloc (.cells #[.slice none 0 0] TL)).alloc (.map #[] 0)).alloc (.cells #[.map (some (w1.heap.size + 2))] 120)).alloc (.cells #[z] 121)).setCell ⟨w1.heap.size + 4, 0, none⟩ (.func (.func 109) #[] (caps (w.heap.size + 1) w1.heap.size))) ∧
    Below w1.heap.size w1 ((((((w1.alloc (.cells #[.slice none 0 0] TLs)).alloc (.cells #[.slice none 0 0] TL)).alloc (.map #[] 0)).alloc (.cells #[.map (some (w1.heap.size + 2))] 120)).alloc (.cells #[z] 121)).setCell ⟨w1.heap.size + 4, 0, none⟩ (.func (.func 109) #[] (caps (w.heap.size + 1) w1.heap.size))) := by
  have hsz1 := lt_of_block hN
  have a0 := heap_alloc_new w1 (.cells #[.slice none 0 0] TLs)
  have b0 := below_alloc1 w1 (.cells #[.slice none 0 0] TLs)
  have z0 : (w1.alloc (.cells #[.slice none 0 0] TLs)).heap.size = w1.heap.size + 1 := by simp
  generalize w1.alloc (.cells #[.slice none 0 0] TLs) = V0 at a0 b0 z0 ⊢
  have a1 := heap_alloc_new V0 (.cells #[.slice none 0 0] TL)
  have b1 := below_alloc1 V0 (.cells #[.slice none 0 0] TL)
  have z1 : (V0.alloc (.cells #[.slice none 0 0] TL)).heap.size = w1.heap.size + 2 := by simp [z0]
  rw [z0] at a1 b1
  generalize V0.alloc (.cells #[.slice none 0 0] TL) = V1 at a1 b1 z1 ⊢
  have m2 := MapOk.new V1
  have b2 := below_alloc1 V1 (.map #[] 0)
  have z2 : (V1.alloc (.map #[] 0)).heap.size = w1.heap.size + 3 := by simp [z1]
  rw [z1] at m2 b2
  generalize V1.alloc (.map #[] 0) = V2 at m2 b2 z2 ⊢
  have a3 := heap_alloc_new V2 (.cells #[.map (some (w1.heap.size + 2))] 120)
  have b3 := below_alloc1 V2 (.cells #[.map (some (w1.heap.size + 2))] 120)
  have z3 : (V2.alloc (.cells #[.map (some (w1.heap.size + 2))] 120)).heap.size = w1.heap.size + 4 := by simp [z2]
  rw [z2] at a3 b3
  generalize V2.alloc (.cells #[.map (some (w1.heap.size + 2))] 120) = V3 at a3 b3 z3 ⊢
  have a4 := heap_alloc_new V3 (.cells #[z] 121)
  have b4 := below_alloc1 V3 (.cells #[z] 121)
  have z4 : (V3.alloc (.cells #[z] 121)).heap.size = w1.heap.size + 5 := by simp [z3]
  rw [z3] at a4 b4
  generalize V3.alloc (.cells #[z] 121) = V4 at a4 b4 z4 ⊢
  have b5 : Below (w1.heap.size + 4) V4 (V4.setCell ⟨w1.heap.size + 4, 0, none⟩ (.func (.func 109) #[] (caps (w.heap.size + 1) w1.heap.size))) := (Below.refl (w1.heap.size + 4) V4).setCell (p := ⟨w1.heap.size + 4, 0, none⟩) NR _
  have a5 := one_setCell (u := .func (.func 109) #[] (caps (w.heap.size + 1) w1.heap.size)) a4
  have z5 : (V4.setCell ⟨w1.heap.size + 4, 0, none⟩ (.func (.func 109) #[] (caps (w.heap.size + 1) w1.heap.size))).heap.size = w1.heap.size + 5 := by rw [← z4]; show (V4.heap.modify _ _).size = _; rw [Array.size_modify]
  generalize V4.setCell ⟨w1.heap.size + 4, 0, none⟩ (.func (.func 109) #[] (caps (w.heap.size + 1) w1.heap.size)) = V5 at a5 b5 z5 ⊢
  have all : ∀ B, B ≤ w1.heap.size → Below B w1 V5 := fun B hB => ((((b0.mono hB).trans (b1.mono (by omega))).trans (b2.mono (by omega))).trans (b3.mono (by omega))).trans ((b4.mono (by omega)).trans (b5.mono (by omega)))
  have e0 : V5.heap[w1.heap.size]? = V0.heap[w1.heap.size]? := (b5.block _ (by omega)).trans ((b4.block _ (by omega)).trans ((b3.block _ (by omega)).trans ((b2.block _ (by omega)).trans (b1.block _ (by omega)))))
  have e1 : V5.heap[w1.heap.size + 1]? = V1.heap[w1.heap.size + 1]? := (b5.block _ (by omega)).trans ((b4.block _ (by omega)).trans ((b3.block _ (by omega)).trans (b2.block _ (by omega))))
  have e2 : V5.heap[w1.heap.size + 2]? = V2.heap[w1.heap.size + 2]? := (b5.block _ (by omega)).trans ((b4.block _ (by omega)).trans (b3.block _ (by omega)))
  have e3 : V5.heap[w1.heap.size + 3]? = V3.heap[w1.heap.size + 3]? := (b5.block _ (by omega)).trans (b4.block _ (by omega))
  have eN := ((all _ NR).block _ hsz1).trans hN
  have hws := hw1.size
  refine ⟨⟨(hT.on hw1 NR).same ((all _ NR).block _ (Nat.lt_of_lt_of_le hT.lt hws)), Nat.le_of_lt hT.lt, eN, e3.trans a3, a5, m2.same e2, by omega, fun j hj => ⟨by omega, by omega, by omega, by omega⟩, none, 0, [], none, 0, ?_⟩, all _ NR⟩
  exact ⟨e0.trans a0, e1.trans a1, ⟨rfl, .inl ⟨rfl, rfl⟩⟩, ⟨rfl, .inl ⟨rfl, rfl⟩⟩, Ins.nil _ _ _ _, (fun s hs => by cases hs), (fun j _ h => by cases h), (fun j _ h => by cases h)⟩
def Two (w : World) (v : Value) (lim : Nat) (W : World) : Prop := Below w.heap.size w W ∧ Rg W w.heap.size v ∧ W.heap[w.heap.size + 1]? = some (.cells #[.int .i64 (lim : Int)] 3)
theorem Two.start (w : World) (v : Value) (lim : Nat) : Two w v lim ((w.alloc (.cells #[v] 26)).alloc (.cells #[.int .i64 (lim : Int)] 3)) := by
  have a := Rg.new w v
  have b := below_alloc1 w (.cells #[v] 26)
  have z : (w.alloc (.cells #[v] 26)).heap.size = w.heap.size + 1 := by simp
  generalize w.alloc (.cells #[v] 26) = W at a b z ⊢
  have c := heap_alloc_new W (.cells #[.int .i64 (lim : Int)] 3)
  rw [z] at c
  exact ⟨b.alloc b.size _, a.on (below_alloc1 W _), c⟩
theorem Two.on {w W W' : World} {v : Value} {lim : Nat} (h : Two w v lim W) (hb : Below W.heap.size W W') : Two w v lim W' := ⟨h.1.trans (hb.mono h.1.size), h.2.1.on hb, (hb.block _ (lt_of_block h.2.2)).trans h.2.2⟩
theorem st_box (w1 : World) (a b c d : Obj) (z : Value) : ((((w1.alloc a).alloc b).alloc c).alloc d).alloc (.cells #[z] 121) |>.heap[w1.heap.size + 4]? = some (.cells #[z] 121) := by
  have h : ((((w1.alloc a).alloc b).alloc c).alloc d).heap.size = w1.heap.size + 4 := by simp
  have := heap_alloc_new ((((w1.alloc a).alloc b).alloc c).alloc d) (.cells #[z] 121)
  rw [h] at this; exact this
theorem run_makeMap0 {w : World} : (Instr.makeMap 120 none).run Tryz.prog w = .ok (.map (some w.heap.size)) (w.alloc (.map #[] 0)) := rfl
theorem hmf (fn : Fn) (first cap : Array Value) (w : World) : (Instr.makeFunc fn first cap).run Tryz.prog w = .ok (.func fn first cap) w := rfl
set_option maxHeartbeats 4000000 in
theorem iFirstTilings (w : World) (A : Option Addr) (n cap B : Nat) (xs : List Int) (hx : xs.length = n) (hn : (n : Int) ≤ 9223372036854775807) (hrow : RowB w B A xs) (hB : B ≤ w.heap.size) (lim : Nat) (hlim : lim ≤ 1000) (hT : Tab w) :
    Calls Tryz.prog 79 #[.agg #[.slice A n cap], .int .i64 (lim : Int)] w (SSP ((allR xs).take lim) (halfR xs) w) := by
  have HOk := Lh (fun W (hb : Below w.heap.size w W) => iRegionOk W A n cap B xs hx hn (hrow.below hb hB) (by have := hb.size; omega))
  have HT := Lh (Two.start w (.slice A n cap) lim)
  by_cases ho : okR xs
  · have HCl := Lh (fun W (hb : Below w.heap.size w W) => iCellsOf W A n cap B xs hx hn (hrow.below hb hB) (by have := hb.size; omega))
    have HUn : (unc [] (cellsR xs)).length < 2 * 33 := by have := unc_length [] (cellsR xs); have := cellsR_length xs; omega
    obtain ⟨R, hR⟩ : ∃ R, R = (allR xs).take lim := ⟨_, rfl⟩
    obtain ⟨x0, hx0⟩ : ∃ x0, x0 = setN (idxs xs) := ⟨_, rfl⟩
    obtain ⟨hf, hhf⟩ : ∃ hf, hf = halfR xs := ⟨_, rfl⟩
    have HEx : ∀ bT, ∃ Q, ∀ (K : Nat → Prop) (W : World), St K (w.heap.size + 1) bT lim hf 0 [] [] W → Calls Tryz.prog 109 #[.int .u64 (x0 : Int), .pointer (some ⟨bT, 0, none⟩), .pointer (some ⟨w.heap.size + 1, 0, none⟩), .pointer (some ⟨bT + 3, 0, none⟩), .pointer (some ⟨bT + 1, 0, none⟩), .pointer (some ⟨bT + 4, 0, none⟩)] W (Xt K (w.heap.size + 1) bT lim hf Q R [] W) := fun bT => ⟨0 + U 33, fun K W k => by
      have := iExtend xs ho (w.heap.size + 1) bT lim (halfR xs) rfl hlim 33 W K 0 (setN (idxs xs)) [] [] 0 (hhf ▸ k) (set_lt idxs_lt) (by rw [set_idxs, gM_nil]) (Beg.zero xs) (Nat.zero_le _) (fun i hi => by omega) HUn (Nat.zero_le _) (by rw [U33]; omega)
      rw [show List.take lim (([] : List (List Dm)) ++ cont xs []) = R by rw [hR, List.nil_append, cont_nil, allR_ok ho]; rfl, ← hx0, ← hhf] at this
      exact this⟩
    have HEx := Lh HEx
    rw [okRB_of ho] at HOk
    have HTab := Lh hT
    have hcs : cellsR xs = (idxs xs).map plc := by rw [cellsR_ok ho, idxs_cells]; rfl
    have hcl := cellsR_length xs
    have hlt := hT.lt
    have hjs : ∀ j ∈ idxs xs, j < 64 := idxs_lt
    generalize cellsR xs = C at hcs hcl HCl
    generalize idxs xs = js at hcs hx0 hjs
    obtain ⟨m, hm⟩ : ∃ m, m = C.length := ⟨_, rfl⟩
    have HCl := Lh (fun W (hb : Below w.heap.size w W) => show Calls Tryz.prog 82 #[.agg #[.slice A n cap]] W (fun e w' => ∃ (A : Option Addr) (cap b off : Nat), e = .returned (.slice A m cap) ∧ Below W.heap.size W w' ∧ Hid (Calls Tryz.prog 114 #[.slice A m cap] w' (SetE x0 w'))) from (HCl.out W hb).mono (by
      rintro e w7 ⟨A1, cap1, rfl, hown7, hb7⟩
      obtain ⟨b7, off7, hA7, hR7⟩ := rowC_own hown7
      refine ⟨A1, cap1, b7, off7, by rw [hm], hb7, Lh ?_⟩
      have := iSetOf w7 A1 C.length cap1 b7 off7 C js hcs hjs (by rw [hcs, List.length_map]) (by omega) (fun h0 => (hA7 h0).1) ⟨fun h0 => (hA7 h0).2, hR7⟩
      rw [← hx0, ← hm] at this
      exact this))
    have HR := Lh hR
    have HH := Lh hhf
    clear hx hn hrow hB hcs hcl hjs hm hx0 hR HUn ho hhf
    go_enter Tryz.func79, Tryz.ntmps79
    go_wp2_with fail
    have T0 := HT.out
    refine (HOk.out _ T0.1).mono ?_
    rintro e w1 ⟨rfl, hb1⟩
    have T1 := T0.on hb1
    clear T0 HT hb1 HOk
    have hm := hmf
    have hmm := @run_makeMap0
    go_upto_region 7 with fail
    rw [show w1.heap.size + 1 + 1 + 1 + 1 = w1.heap.size + 4 from rfl, show w1.heap.size + 1 + 1 + 1 = w1.heap.size + 3 from rfl, show w1.heap.size + 1 + 1 = w1.heap.size + 2 from rfl]
    obtain ⟨k5, b5⟩ := st_start w w1 lim hf HTab.out .nilFunc T1.1 T1.2.2
    have hbx := st_box w1 (.cells #[.slice none 0 0] TLs) (.cells #[.slice none 0 0] TL) (.map #[] 0) (.cells #[.map (some (w1.heap.size + 2))] 120) .nilFunc
    have hc4 := cell_of_one hbx
    have hf4 := free_of_one hbx
    generalize ((((w1.alloc (.cells #[.slice none 0 0] TLs)).alloc (.cells #[.slice none 0 0] TL)).alloc (.map #[] 0)).alloc (.cells #[.map (some (w1.heap.size + 2))] 120)).alloc (.cells #[.nilFunc] 121) = V4 at k5 b5 hc4 hf4 ⊢
    have T5 := T1.on b5
    clear hbx b5 hmm
    go_upto_region 8 with fail
    have hcp : (.func (.func 109) #[] #[.pointer (some ⟨w1.heap.size, 0, none⟩), .pointer (some ⟨w.heap.size + 1, 0, none⟩), .pointer (some ⟨w1.heap.size + 3, 0, none⟩), .pointer (some ⟨w1.heap.size + 1, 0, none⟩), .pointer (some ⟨w1.heap.size + 4, 0, none⟩)] : Value) = .func (.func 109) #[] (caps (w.heap.size + 1) w1.heap.size) := rfl
    rw [hcp]
    generalize V4.setCell ⟨w1.heap.size + 4, 0, none⟩ (.func (.func 109) #[] (caps (w.heap.size + 1) w1.heap.size)) = V5 at k5 T5 ⊢
    have hlo : w.heap.size ≤ w1.heap.size := T1.1.size
    obtain ⟨Q, hQ⟩ := HEx.out w1.heap.size
    have HEx5 := Lh (fun W k => hQ (fun j => j ≤ w.heap.size) W k)
    clear hQ
    generalize w1.heap.size = bT at k5 HEx5 hlo ⊢
    clear T1 hc4 hf4 hcp HEx
    have k6 := k5.drew
    have T6 : Two w (.slice A n cap) lim V5.drew := ⟨T5.1.drew, T5.2⟩
    clear k5 T5
    have hs0 : V5.drew.cell? ⟨bT + 4, 0, none⟩ = some (.func (.func 109) #[] (caps (w.heap.size + 1) bT)) ∧ V5.drew.cell? ⟨w.heap.size, 0, none⟩ = some (.slice A n cap) := ⟨k6.cE, T6.2.1.c0⟩
    go_region_held3 (fun w' => w'.cell? ⟨bT + 4, 0, none⟩ = some (.func (.func 109) #[] (caps (w.heap.size + 1) bT)) ∧ w'.cell? ⟨w.heap.size, 0, none⟩ = some (.slice A n cap))
      (first
        | exact hs3
        | exact hs2
        | exact hs1
        | exact hs0
        | fail)
      (first
        | (go_at_call 82
           go_must (refine (HCl.out _ T6.1).mono ?_)
           rintro e w7 ⟨A1, cap1, b7, off7, rfl, hb7, HSt⟩
           have k7 := k6.on hb7
           have T7 := T6.on hb7
           have hs1 : w7.cell? ⟨bT + 4, 0, none⟩ = some (.func (.func 109) #[] (caps (w.heap.size + 1) bT)) ∧ w7.cell? ⟨w.heap.size, 0, none⟩ = some (.slice A n cap) := ⟨k7.cE, T7.2.1.c0⟩)
        | (go_at_call 114
           go_must (refine HSt.out.mono ?_)
           rintro e w8 ⟨rfl, hb8⟩
           have k8 := k7.on hb8
           have T8 := T7.on hb8
           have hs2 : w8.cell? ⟨bT + 4, 0, none⟩ = some (.func (.func 109) #[] (caps (w.heap.size + 1) bT)) ∧ w8.cell? ⟨w.heap.size, 0, none⟩ = some (.slice A n cap) := ⟨k8.cE, T8.2.1.c0⟩)
        | (go_at_call 109
           go_must (refine (HEx5.out _ k8).mono ?_)
           rintro e w9 ⟨rfl, k9, p9⟩
           have hs3 : w9.cell? ⟨bT + 4, 0, none⟩ = some (.func (.func 109) #[] (caps (w.heap.size + 1) bT)) ∧ w9.cell? ⟨w.heap.size, 0, none⟩ = some (.slice A n cap) := ⟨k9.cE, (World.cell?_of_block (a := ⟨w.heap.size, 0, none⟩) (p9.block _ NR)).trans T8.2.1.c0⟩)
        | fail)
    have hb9 : Below w.heap.size w w9 := T8.1.trans (p9.below (fun j hj => by show j ≤ _; omega))
    obtain ⟨Ab, capb, Sb, ALb, cLb, r9⟩ := k9.rows
    have g0 := r9.cT
    have HP := Lh (show SSP ((allR xs).take lim) (halfR xs) w (.returned (.slice Ab R.length capb)) w9 by
      rw [← HR.out, ← HH.out]
      exact ⟨Ab, capb, rfl, ⟨Sb, ⟨Reg.own_base r9.oT (by omega), fun g hg => (r9.oT.lt g hg).2⟩, r9.ins.wide (by omega) NR⟩, hb9⟩)
    clear hs0 hs1 hs2 hs3 k6 k7 k8 k9 T6 T7 T8 hb9 p9 r9
    go_wp2
    go_ret
    exact HP.out
  · have hE : allR xs = [] := allR_not ho
    have HP := Lh (fun (w1 : World) (hb : Below w.heap.size w w1) => show SSP ((allR xs).take lim) (halfR xs) w (.returned (.slice none 0 0)) w1 by
      rw [hE, List.take_nil]; exact ⟨none, 0, rfl, ss_nil _ _ _ _, hb⟩)
    rw [okRB_not ho] at HOk
    clear hx hn hrow hB hE ho
    go_enter Tryz.func79, Tryz.ntmps79
    go_wp2_with fail
    have T0 := HT.out
    refine (HOk.out _ T0.1).mono ?_
    rintro e w1 ⟨rfl, hb1⟩
    have T1 := T0.on hb1
    clear T0 HT hb1 HOk
    go_wp2
    go_ret
    exact HP.out _ T1.1
end Go.Proofs.YtmajllgfmclcoaaGreatDoor.Ext
