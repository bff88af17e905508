/- LisT, LisU, DrQ in one text. -/
import Derived.Test.YtkjoonmnedofiaaMgTil
import Derived.OneCell
import Derived.Deep.RegionHeld3
import Derived.Test.YtkjoonmnedofiaaMgSct
import Derived.Test.YtkjoonmnedofiaaLisP
import Derived.Deep.Cut

/- The model's list of the tilings that go on with a head: the walk. -/
namespace Go.Proofs.Ytkjoonmnedofiaa.Lis
set_option linter.unusedVariables false
set_option linter.unusedSimpArgs false
set_option maxRecDepth 100000
open Go.RowKit Go.Proofs.Ytkjoonmnedofiaa.Base Go.Proofs.Ytkjoonmnedofiaa.Pure Go.Proofs.Ytkjoonmnedofiaa.Cell Go.Proofs.Ytkjoonmnedofiaa.Cels Go.Proofs.Ytkjoonmnedofiaa.Dom Go.Proofs.Ytkjoonmnedofiaa.Dms Go.Proofs.Ytkjoonmnedofiaa.Til Go.Proofs.Ytkjoonmnedofiaa.Grd Go.Proofs.Ytkjoonmnedofiaa.Dss Go.Joins
open Go.Proofs.Ytkjoonmnedofiaa.Cnt (gR tiles gR_in gR_out)
open Go.Proofs.Ytkjoonmnedofiaa.Reg hiding Yes add_none RC rc_start

theorem ssInfo : (Try.prog.info? 27).map (fun i => (i.zero, i.size, i.bytes)) = some (some (.slice none 0 0), 1, 24) := by kernel_rfl
/-- the head of a list, in memory. -/
def Hd (W : World) (g c : Nat) (M : List Dm) : Prop := W.ownsRow 0 38 3 (.slice (some ⟨g, 0, none⟩) M.length c) M.length (rowM M)
theorem Hd.on {W W' : World} {g c B : Nat} {M : List Dm} (h : Hd W g c M) (hb : Below B W W') (hB : W.heap.size ≤ B) : Hd W' g c M := Reg.own_below h hb hB
theorem Hd.at {w W : World} {g c : Nat} {M : List Dm} (h : Hd w g c M) (hb : Below w.heap.size w W) : Hd W g c M := Reg.own_below h hb (Nat.le_refl _)

theorem sj {a b : Nat} (h : some a = some b) : a = b := by injection h
theorem rowM_one (L : List Dm) : ∀ v ∈ rowM L, v.oneCell' = true := by
  intro v hv
  unfold rowM at hv
  rw [List.mem_flatMap] at hv
  obtain ⟨d, _, hd⟩ := hv
  simp only [List.mem_cons, List.not_mem_nil, or_false] at hd
  rcases hd with rfl | rfl | rfl <;> rfl
theorem outs_one (h : Nat) (S : List (Option Addr × Nat)) : ∀ u ∈ outs h S, u.oneCell' = true := fun u hu => by
  unfold outs at hu
  obtain ⟨s, _, rfl⟩ := List.mem_map.1 hu
  rfl
theorem row_ne_box {W : World} {base e size n c g p : Nat} {xs : List Value} {cs : Array Value} {T : TypeId} (ho : W.ownsRow base e size (.slice (some ⟨g, 0, none⟩) n c) n xs) (h : W.heap[p]? = some (.cells cs T)) (hne : e ≠ T) : p ≠ g := by
  rintro rfl
  rcases ho.2 with ⟨q, _⟩ | ⟨g', c', cur, q, _, hg, _⟩
  · cases q
  · injection q with q1
    injection q1 with q1
    injection q1 with q1
    subst q1
    rw [hg] at h
    injection h with h
    injection h with _ h
    exact hne h
set_option maxHeartbeats 4000000 in
theorem sList (xs : List Int) (n : Nat) (hx : xs.length = n) (ho : okR xs) (A : Option Addr) (cap B h : Nat) (hh : h = (cellsR xs).length / 2) :
    ∀ (f : Nat) (w : World), RowB w B A xs → B ≤ w.heap.size → ∀ (M : List Dm) (k : Nat), Beg xs k M → k ≤ 64 → (∀ i, i < k → gM xs M i = false) → (unc M (cellsR xs)).length < f → ∀ (g cM : Nat), Hd w g cM M → M.length ≤ 32 → ∀ (most : Nat), 1 ≤ most → most ≤ 300 →
    Calls Try.prog 80 #[.agg #[.slice A n cap], .slice (some ⟨g, 0, none⟩) M.length cM, .int .i64 (most : Int)] w (SSPost ((cont xs M).take most) h w) := by
  intro f
  induction f with
  | zero => intro w _ _ M k _ _ _ hf; omega
  | succ f ih =>
  intro w hr hB M k hbg hk64 hk0 hf g cM hd hM most hm1 hm2
  have hn : (n : Int) ≤ 9223372036854775807 := by have := ho.1; omega
  have HHh := Lib.hid hh
  obtain ⟨i0, hi, hz0, hz1, hz2⟩ := info_parts domInfo
  obtain ⟨j0, hj, hy0, hy1, hy2⟩ := info_parts ssInfo
  have HMk := Lib.hid (fun (W : World) => World.ownsRow_made (e := 27) (size := 1) W #[] 0 (Nat.le_refl _) (by unfold maxLen; omega) rfl)
  have HUn := Lib.hid (fun W (hb : Below w.heap.size w W) => sUncoveredOf W A n cap B xs hx hn (hr.below hb hB) (by have := hb.size; omega) (some ⟨g, 0, none⟩) M.length cM W.heap.size M rfl (by omega) (rowM_own (hd.at hb)) (Nat.le_refl _))
  have HHs := Lib.hid (fun W (hb : Below w.heap.size w W) x y => sHasCell W A n cap B xs hx hn (hr.below hb hB) (by have := hb.size; omega) x y)
  have HDa := Lib.hid (fun W (hb : Below w.heap.size w W) x y => sDominoAt W (some ⟨g, 0, none⟩) M.length cM W.heap.size M rfl (by omega) (rowM_own (hd.at hb)) (Nat.le_refl _) x y)
  have HS := Lib.hid (fun (o : Obj) => below_alloc1 w o)
  have HHd := Lib.hid hd
  have HUC := Lib.hid (fun hk => unc_first ho (M := M) (j := 0) hk)
  have HUN := Lib.hid (fun hk => cont_done ho (M := M) hk)
  have HHf := Lib.hid (cont_half ho hbg hk64 hk0)
  have hC64 : (unc M (cellsR xs)).length ≤ 64 := Nat.le_trans (unc_length M (cellsR xs)) (cellsR_length xs)
  have HBg := Lib.hid hbg
  have HK0 := Lib.hid hk0
  clear hbg hh
  generalize hU : unc M (cellsR xs) = C at HUn HUC HUN hf hC64
  go_enter Try.func80, Try.ntmps80
  go_wp2_with fail
  have hbw0 := HS.out (.cells #[.slice A n cap] 26)
  have hbx := Rg.new w (.slice A n cap)
  have hown0 := HMk.out (w.alloc (.cells #[.slice A n cap] 26))
  have hz0w : (w.alloc (.cells #[.slice A n cap] 26)).heap.size = w.heap.size + 1 := by simp
  generalize w.alloc (.cells #[.slice A n cap] 26) = W0 at hbw0 hbx hown0 hz0w ⊢
  have hbw := hbw0.alloc hbw0.size (.cells #[] 27)
  have hbx1 := hbx.on (below_alloc1 W0 (.cells #[] 27))
  have hz1w : (W0.alloc (.cells #[] 27)).heap.size = w.heap.size + 2 := by simp [hz0w]
  rw [hz0w] at hown0
  generalize W0.alloc (.cells #[] 27) = W1 at hbw hown0 hz1w hbx1 ⊢
  refine (HUn.out _ hbw).mono ?_
  rintro e w1 ⟨A1, cap1, rfl, hown1, hb1⟩
  have hbw1 := hbw.trans (hb1.mono hbw.size)
  obtain ⟨b, off, hA1, hR1⟩ := rowC_own hown1
  have R1 : RdC w1 b off C := ⟨fun h0 => (hA1 h0).2, hR1⟩
  have hb2 : 0 < C.length → w.heap.size + 2 ≤ b := fun h0 => by
    obtain ⟨g, c, hv, hg, _⟩ := hown1.form h0
    have e := (hA1 h0).1
    rw [e] at hv
    injection hv with hv
    injection hv with hv
    injection hv with hv
    omega
  have HA1 := Lib.hid (fun h0 => (hA1 h0).1)
  have T0 : Lst w (.slice A n cap) b off C h [] (w.heap.size + 1) 0 w1 := ⟨hbw1, hbx1.on hb1, R1, fun h0 => ⟨hb2 h0, by have := hb2 h0; omega⟩, [], Reg.own_base (Reg.own_below hown0 hb1 (Nat.le_refl _)) (by omega), Ins.nil _ _ _ _⟩
  clear HUn HS hb1 hA1 hR1 hbw0 hbw hz0w hown0 hown1 R1 hb2 hbx hbx1 hbw1
  by_cases hC : C.length = 0
  · have hC2 : ((C.length : Int) == 0) = true := by simp [hC]
    have hcont := HUN.out hC
    have HMh := Lib.hid (show M.length = h by rw [HHh.out]; exact HHf.out M (by rw [hcont]; simp))
    have HTk := Lib.hid (show (cont xs M).take most = [M] by rw [hcont, List.take_of_length_le (by simpa using hm1)])
    have hHd := HHd.out.at T0.bel
    have HAl := Lib.hid (below_alloc1 w1 (.cells #[] 38))
    have hza1 : (w1.alloc (.cells #[] 38)).heap.size = w1.heap.size + 1 := by simp
    have HMd := Lib.hid (World.ownsRow_made (e := 38) (size := 3) w1 #[] 0 (Nat.le_refl _) (by unfold maxLen; omega) rfl)
    have HHd1 := Lib.hid (hHd.at (below_alloc1 w1 (.cells #[] 38)))
    have HT0 := Lib.hid T0
    have hw := T0.bel.size
    have hw2 := T0.box.lt
    clear hHd T0 HUN HUC HHf HHs HDa ih hk0 hcont
    go_wp2_with (first
      | (at_builtin
         refine append_any _ rfl _ _ 27 rfl w1.heap.size 38 i0 (.agg #[.int .i64 0, .int .i64 0, .bool false]) 3 24 Try.underlying27 hi hz0 hz1 hz2 rfl (by decide) w1.heap.size 0 0 [] (by rfl) HMd.out ⟨g, 0, none⟩ M.length cM (rowM M) (by rfl) (rowM_length M) (fun j u hu => HHd1.out.cells (g := g) rfl j u hu) (rowM_one _) (by unfold maxLen; omega) (by omega) (by omega) ?_
         intro g6 c6 w6 hown6 hgr6 hat6 hlt6
         have hb6 : Below w1.heap.size w1 w6 := HAl.out.grown hgr6 (by omega) (fun q hq => by have hq2 : w1.heap.size = q := by { injection hq }; omega)
         rw [Nat.zero_add, List.nil_append] at hown6
         have hr6 : RowIn w6 w1.heap.size w6.heap.size 38 3 (.slice (some ⟨g6, 0, none⟩) M.length c6) M.length (rowM M) := rowIn_new hown6
         have hz7 : (w6.alloc (.cells #[.slice (some ⟨g6, 0, none⟩) M.length c6] 27)).heap.size = w6.heap.size + 1 := by simp
         have HT7 := Lib.hid ((HT0.out.on hb6).on (below_alloc1 w6 (.cells #[.slice (some ⟨g6, 0, none⟩) M.length c6] 27)))
         have HR7 := Lib.hid (hr6.on (below_alloc1 w6 (.cells #[.slice (some ⟨g6, 0, none⟩) M.length c6] 27)))
         have HNw := Lib.hid (World.news_of_block (cs := #[Value.slice (some ⟨g6, 0, none⟩) M.length c6]) (t := 27) (fr := (0, 0)) (heap_alloc_new w6 (.cells #[.slice (some ⟨g6, 0, none⟩) M.length c6] 27)))
         have hs6 := hb6.size
         obtain ⟨S, hS1, hS2⟩ := HT7.out.out
         have hS0 : S = [] := List.eq_nil_of_length_eq_zero (by have := hS2.1; simpa using this)
         subst hS0
         have HS1 := Lib.hid hS1
         have hsz := HT7.out.bel.size
         clear hown6 hgr6 hat6 hb6 hr6 hS1 hS2 HT0 HHd1 HMd HAl)
      | (at_builtin
         refine append_any _ rfl _ _ 81 rfl (w.heap.size + 1) 27 j0 (.slice none 0 0) 1 24 Try.underlying81 hj hy0 hy1 hy2 rfl (by decide) (w.heap.size + 1) 0 0 [] (by rfl) HS1.out ⟨w6.heap.size, 0, none⟩ 1 1 [.slice (some ⟨g6, 0, none⟩) M.length c6] (by rfl) rfl HNw.out (by simp [Value.oneCell']) (by unfold maxLen; omega) (by omega) (by omega) ?_
         intro g8 c8 w8 hown8 hgr8 hat8 hlt8))
    have T8 := HT7.out.app (L' := [M]) (S' := [(some ⟨g6, 0, none⟩, c6)]) [] HS1.out (Ins.one (RowIn.wide (by rw [← HMh.out]; exact HR7.out) (by omega) (by omega))) rfl hgr8 hat8 (by rw [← HMh.out]; exact hown8)
    go_ret
    rw [HTk.out]
    exact T8.post
  · have hC2 : ((C.length : Int) == 0) = false := by rw [beq_eq_false_iff_ne]; omega
    have hC0 : 0 < C.length := by omega
    obtain ⟨c, hc64, hcg, hcf, hcc⟩ := HUC.out hC0
    have HC0 := Lib.hid (show C[0]? = some (((c % 8 : Nat) : Int), ((c / 8 : Nat) : Int)) by rw [List.getElem?_eq_getElem hC0, hcc])
    have HCt := Lib.hid (show cont xs M = pre xs M c 2 by rw [cont_step hc64 hcg hcf]; simp [pre])
    have HCan := Lib.hid (fun b => can_is ho (M := M) hc64 b)
    have HMo := Lib.hid (fun (t : Nat) (L : List (List Dm)) (ht : t < 2) hL hlt => pre_more (xs := xs) (M := M) (c := c) (most := most) (L := L) ht hL hlt)
    have HSt := Lib.hid (fun (t : Nat) (L : List (List Dm)) (ht : t ≤ 2) hL hlt => pre_stop (xs := xs) (M := M) (c := c) (most := most) (L := L) ht hL hlt)
    have HBx := Lib.hid (show ∀ bb : Bool, okM (dmN c bb) = domB ((c % 8 : Nat) : Int) ((c / 8 : Nat) : Int) bb from fun _ => rfl)
    have HCx := Lib.hid (show ∀ bb : Bool, sx (dmN c bb).1 bb = sx ((c % 8 : Nat) : Int) bb ∧ sy (dmN c bb).2.1 bb = sy ((c / 8 : Nat) : Int) bb from fun _ => ⟨rfl, rfl⟩)
    obtain ⟨x, hx0⟩ : ∃ x : Int, x = ((c % 8 : Nat) : Int) := ⟨_, rfl⟩
    obtain ⟨y, hy00⟩ : ∃ y : Int, y = ((c / 8 : Nat) : Int) := ⟨_, rfl⟩
    rw [← hx0, ← hy00] at HC0 HBx HCx
    have HXY := Lib.hid (show ∀ bb, dmN c bb = (x, y, bb) from fun bb => by rw [hx0, hy00]; rfl)
    have HIH := Lib.hid (show ∀ (bb : Bool) (r : Nat) (W : World) (g' c' : Nat), canB xs M c bb = true → 1 ≤ r → r ≤ 300 → RowB W B A xs → B ≤ W.heap.size → Hd W g' c' (M ++ [dmN c bb]) → Calls Try.prog 80 #[.agg #[.slice A n cap], .slice (some ⟨g', 0, none⟩) (M.length + 1) c', .int .i64 (r : Int)] W (SSPost ((one xs M c bb).take r) h W) from fun bb r W g' c' hc r1 r2 a1 a2 a3 => by
      have hkc : k ≤ c := by
        by_cases q : k ≤ c
        · exact q
        · have := HK0.out c (by omega); rw [hcg] at this; cases this
      have hB1 := (HBg.out.mono hkc).step ho hcg hc
      obtain ⟨l1, l2, l3⟩ := can_lt hc
      have hst : stepB xs M (dmN c bb) = true := by
        have := hB1.1 M.length (by simp)
        rwa [stp_last] at this
      have hus := unc_step hst
      rw [hU] at hus
      have hpl := part_length (part_yes (okRB_of ho) hB1.1)
      have hz : ∀ i, i < c + 1 → gM xs (M ++ [dmN c bb]) i = false := fun i hi => by
        rw [gM_snoc l1 l2, Bool.eq_false_iff, Ne, Cnt.rem_iff]
        rintro ⟨b1, b2, b3⟩
        rw [hcf i (by omega)] at b1; cases b1
      have hone : one xs M c bb = cont xs (M ++ [dmN c bb]) := by unfold one; rw [if_pos hc]
      have := ih W a1 a2 (M ++ [dmN c bb]) (c + 1) hB1 (by omega) hz (by omega) g' c' a3 (by omega) r r1 r2
      rw [List.length_append, List.length_singleton] at this
      rw [hone]; exact this)
    clear hx0 hy00 HUC HUN hcc ih
    go_wp2_with fail
    go_loopw [7, 9] (fun v i wr => ∃ (t : Nat) (L : List (List Dm)) (go co : Nat), t ≤ 2 ∧ i = .int .i64 t ∧ v = .slice (some ⟨go, 0, none⟩) L.length co ∧ Lst w (.slice A n cap) b off C h L go co wr ∧ Hid (L = (pre xs M c t).take most)) (fun _ i _ => 2 - (intOf i).toNat)
    case atStart => exact ⟨0, [], w.heap.size + 1, 0, Nat.zero_le _, rfl, rfl, T0, Lib.hid (by simp [pre])⟩
    case round =>
      clear T0
      obtain ⟨t, L, go, co, ht, rfl, rfl, T1, hL⟩ := hrel
      by_cases hgo : t < 2 ∧ L.length < most
      · obtain ⟨ht2, hlm⟩ := hgo
        have HMr := Lib.hid (HMo.out t L ht2 hL.out hlm)
        obtain rfl := HA1.out hC0
        obtain ⟨c0, c1⟩ := T1.cs.2 0 _ HC0.out
        simp only [Nat.zero_mul, Nat.add_zero] at c0 c1
        have HD3 := Lib.hid (show ((t : Int) == 1) = decide (t = 1) by rw [Bool.eq_iff_iff]; simp; omega)
        obtain ⟨bb, hbb⟩ : ∃ bb, bb = decide (t = 1) := ⟨_, rfl⟩
        rw [← hbb] at HD3 HMr
        clear hbb
        have hbl := T1.cs.1 hC0
        go_upto_region 8 with fail
        go_region_held3 (fun w' => w'.cell? ⟨b, off, none⟩ = some (.int .i64 x) ∧ w'.cell? ⟨b, off + 1, none⟩ = some (.int .i64 y))
          (first | go_keep)
          (first | fail)
        rename_i hHeld
        have T2 := (T1.on (below_alloc1 wr (.cells #[.int .i64 x, .int .i64 y, .bool ((t : Int) == 1)] 38))).drew
        have Z2 : At3 38 (wr.alloc (.cells #[.int .i64 x, .int .i64 y, .bool ((t : Int) == 1)] 38)).drew wr.heap.size x y ((t : Int) == 1) := At3.new 38 wr x y ((t : Int) == 1)
        rw [HD3.out] at T2 Z2 ⊢
        clear hHeld c0 c1 T1 HD3
        generalize (wr.alloc (.cells #[.int .i64 x, .int .i64 y, .bool bb] 38)).drew = W2 at T2 Z2 ⊢
        generalize wr.heap.size = p at Z2 ⊢
        have HK := Lib.hid (fun W => sSecond x y bb W)
        have HO := Lib.hid (fun W => sDominoOk x y bb W)
        have HCb := Lib.hid (HCan.out bb)
        rw [HBx.out bb, (HCx.out bb).1, (HCx.out bb).2] at HCb
        generalize domB x y bb = pp at HO HCb
        generalize sx x bb = u at HK HCb
        generalize sy y bb = v at HK HCb
        have HHu := Lib.hid (fun W hb => HHs.out W hb u v)
        have HDu := Lib.hid (fun W hb => HDa.out W hb u v)
        have HQu := Lib.hid (atI_neg (L := M) (x := u) (y := v))
        generalize atI M u v = qu at HDu HQu
        generalize hasB xs u v = ss at HHu HCb
        generalize anyM M u v = an at HQu HCb
        have d0 := Z2.c0
        have d1 := Z2.c1
        have d2 := Z2.c2
        go_wp2_with fail
        refine (HK.out _).mono ?_
        rintro e w5 ⟨rfl, hb5⟩
        have T6 := T2.on hb5
        have Z6 := Z2.on hb5
        clear T2 Z2 d0 d1 d2 hb5 HK
        go_upto_region 10 with fail
        have K7 := At2.new w5 u v
        have T7 := T6.on (below_alloc1 w5 (.cells #[.int .i64 u, .int .i64 v] 35))
        have Z7 := Z6.on (below_alloc1 w5 (.cells #[.int .i64 u, .int .i64 v] 35))
        clear T6 Z6
        generalize w5.alloc (.cells #[.int .i64 u, .int .i64 v] 35) = W7 at T7 Z7 K7 ⊢
        generalize w5.heap.size = p7 at K7 ⊢
        have d0 := Z7.c0
        have d1 := Z7.c1
        have d2 := Z7.c2
        go_wp2_with fail
        refine (HO.out _).mono ?_
        rintro e w8 ⟨rfl, hb8⟩
        have T8 := T7.on hb8
        have Z8 := Z7.on hb8
        have K8 := K7.on hb8
        clear T7 Z7 K7 d0 d1 d2 hb8 HO
        have HSkip := Lib.hid (fun (hno : canB xs M c bb = false) => (show L = (pre xs M c (t + 1)).take most by
          rw [HMr.out]; unfold one; rw [hno]; simp))
        cases pp with
        | false =>
          have hrel2 := Lib.hid (HSkip.out (by rw [HCb.out]; rfl))
          go_wp2
          go_roundw
          case rel => exact ⟨t + 1, L, go, co, by omega, by go_num, rfl, T8, hrel2⟩
          case measure => (simp [intOf] <;> omega)
        | true =>
          have e0 := K8.c0
          have e1 := K8.c1
          have e2 := T8.box.c0
          go_wp2_with fail
          refine (HHu.out _ T8.bel).mono ?_
          rintro e w9 ⟨rfl, hb9⟩
          have T9 := T8.on hb9
          have Z9 := Z8.on hb9
          have K9 := K8.on hb9
          clear T8 Z8 K8 e0 e1 e2 hb9 HHu
          cases ss with
          | false =>
            have hrel2 := Lib.hid (HSkip.out (by rw [HCb.out]; rfl))
            go_wp2
            go_roundw
            case rel => exact ⟨t + 1, L, go, co, by omega, by go_num, rfl, T9, hrel2⟩
            case measure => (simp [intOf] <;> omega)
          | true =>
            have e0 := K9.c0
            have e1 := K9.c1
            go_wp2_with fail
            refine (HDu.out _ T9.bel).mono ?_
            rintro e W10 ⟨rfl, hb10⟩
            have T10 := T9.on hb10
            have Z10 := Z9.on hb10
            clear T9 Z9 K9 e0 e1 hb10 HDu
            by_cases hq : 0 ≤ qu
            · have hq2 : ¬ qu < 0 := by omega
              have hrel2 := Lib.hid (HSkip.out (by
                rw [HCb.out]
                have h1 := HQu.out
                rw [decide_eq_false hq2] at h1
                rw [← h1]; rfl))
              clear HQu
              go_wp2
              go_roundw
              case rel => exact ⟨t + 1, L, go, co, by omega, by go_num, rfl, T10, hrel2⟩
              case measure => (simp [intOf] <;> omega)
            · have hq2 : qu < 0 := by omega
              have HYes := Lib.hid (show canB xs M c bb = true by
                rw [HCb.out]
                have h1 := HQu.out
                rw [decide_eq_true hq2] at h1
                rw [← h1]; rfl)
              clear HQu HSkip
              have HT10 := Lib.hid T10.drew
              have hz10 := T10.box.lt
              have HMd := Lib.hid (show ((W10.drew).alloc (.cells #[] 38)).ownsRow W10.heap.size 38 3 (.slice (some ⟨W10.heap.size, 0, none⟩) 0 0) 0 [] from World.ownsRow_made (e := 38) (size := 3) W10.drew #[] 0 (Nat.le_refl _) (by unfold maxLen; omega) rfl)
              have HHd1 := Lib.hid ((HHd.out.at T10.drew.bel).at (below_alloc1 W10.drew (.cells #[] 38)))
              have hza1 : ((W10.drew).alloc (.cells #[] 38)).heap.size = W10.heap.size + 1 := by show (W10.drew.alloc _).heap.size = W10.drew.heap.size + 1; simp
              have e0 := T10.box.c0
              have d0 := Z10.c0
              have d1 := Z10.c1
              have d2 := Z10.c2
              go_upto_region 11 with fail
              have HIr := Lib.hid (fun W g' c' a1 a2 a3 => HIH.out bb (most - L.length) W g' c' HYes.out (by omega) (by omega) a1 a2 a3)
              have hsub : ((most - L.length : Nat) : Int) = (most : Int) - (L.length : Int) := by omega
              rw [hsub] at HIr
              generalize hR : (one xs M c bb).take (most - L.length) = R at HIr HMr
              have hRl : R.length ≤ 300 := by rw [← hR, List.length_take]; omega
              have HHr := Lib.hid hr
              clear hR hsub HIH
              have hLl : L.length ≤ 300 := by omega
              have HWr := Lib.hid (show IntKind.i64.wrap ((most : Int) - (L.length : Int)) = (most : Int) - (L.length : Int) by rw [IntKind.wrap_i64]; omega)
              have HB0 := Lib.hid (Below.refl W10.drew.heap.size W10.drew)
              have HSc := Lib.hid (fun (W : World) (hb : Below W10.drew.heap.size W10.drew W) => show W.cell? ⟨w.heap.size, 0, none⟩ = some (.slice A n cap) ∧ W.cell? ⟨p, 0, none⟩ = some (.int .i64 x) ∧ W.cell? ⟨p, 1, none⟩ = some (.int .i64 y) ∧ W.cell? ⟨p, 2, none⟩ = some (.bool bb) from
                ⟨(HT10.out.on hb).box.c0, (At3.on (W := W10.drew) Z10 hb).c0, (At3.on (W := W10.drew) Z10 hb).c1, (At3.on (W := W10.drew) Z10 hb).c2⟩)
              have HHs := Lib.hid (fun (W : World) (hb : Below W10.drew.heap.size W10.drew W) => HHd.out.at (HT10.out.bel.trans (hb.mono HT10.out.bel.size)))
              clear HMd HHd1 hza1 e0 d0 d1 d2
--R11--
              refine wp_region_noPanic ?_
              refine wp_region_held_drew (S := (fun w' => w'.cell? ⟨w.heap.size, 0, none⟩ = some (.slice A n cap) ∧ w'.cell? ⟨p, 0, none⟩ = some (.int .i64 x) ∧ w'.cell? ⟨p, 1, none⟩ = some (.int .i64 y) ∧ w'.cell? ⟨p, 2, none⟩ = some (.bool bb))) (by kernel_rfl) (HSc.out _ HB0.out) (fun hHeld => ?_)
              refine wpAnyH_take (i := 0) (v := ?_) rfl (by kernel_rfl) (by kernel_rfl) (by kernel_rfl) (fun _ _ _ h => h) (Or.inl ⟨by rfl, ?_⟩) (by assumption) ?_
              rotate_left
              · (intro w' hS; (try dsimp only at hS); go_simp; try with_reducible rfl)
              try simp only [Act.put, List.getElem_toArray, List.getElem_cons_succ, List.getElem_cons_zero, List.setIfInBounds_toArray, List.set_cons_zero, List.set_cons_succ]
              refine wpAnyH_take (i := 1) (v := ?_) rfl (by kernel_rfl) (by kernel_rfl) (by kernel_rfl) (fun _ _ _ h => h) (Or.inl ⟨by rfl, ?_⟩) (by assumption) ?_
              rotate_left
              · (intro w' hS; (try dsimp only at hS); go_simp; try with_reducible rfl)
              try simp only [Act.put, List.getElem_toArray, List.getElem_cons_succ, List.getElem_cons_zero, List.setIfInBounds_toArray, List.set_cons_zero, List.set_cons_succ]
              refine wpAnyH_take (i := 3) (v := ?_) rfl (by kernel_rfl) (by kernel_rfl) (by kernel_rfl) (fun _ _ _ h => h) (Or.inl ⟨by rfl, ?_⟩) (by assumption) ?_
              rotate_left
              · (intro w' hS; (try dsimp only at hS); go_simp; try with_reducible rfl)
              try simp only [Act.put, List.getElem_toArray, List.getElem_cons_succ, List.getElem_cons_zero, List.setIfInBounds_toArray, List.set_cons_zero, List.set_cons_succ]
              refine wpAnyH_take (i := 5) (v := ?_) rfl (by kernel_rfl) (by kernel_rfl) (by kernel_rfl) (fun _ _ _ h => h) (Or.inl ⟨by rfl, ?_⟩) (by assumption) ?_
              rotate_left
              · (intro w' hS; (try dsimp only at hS); go_simp; try with_reducible rfl)
              try simp only [Act.put, List.getElem_toArray, List.getElem_cons_succ, List.getElem_cons_zero, List.setIfInBounds_toArray, List.set_cons_zero, List.set_cons_succ]
              refine wpAnyH_take (i := 8) (v := ?_) rfl (by kernel_rfl) (by kernel_rfl) (by kernel_rfl) (fun _ _ _ h => h) (Or.inl ⟨by rfl, ?_⟩) (by assumption) ?_
              rotate_left
              · (intro w' hS; (try dsimp only at hS); go_simp; try with_reducible rfl)
              try simp only [Act.put, List.getElem_toArray, List.getElem_cons_succ, List.getElem_cons_zero, List.setIfInBounds_toArray, List.set_cons_zero, List.set_cons_succ]
              refine wpAnyH_take (i := 9) (v := ?_) rfl (by kernel_rfl) (by kernel_rfl) (by kernel_rfl) (fun _ _ _ h => h) (Or.inl ⟨by rfl, ?_⟩) (by assumption) ?_
              rotate_left
              · (intro w' hS; (try dsimp only at hS); go_simp; try with_reducible rfl)
              try simp only [Act.put, List.getElem_toArray, List.getElem_cons_succ, List.getElem_cons_zero, List.setIfInBounds_toArray, List.set_cons_zero, List.set_cons_succ]
              refine wpAnyH_take (i := 10) (v := ?_) rfl (by kernel_rfl) (by kernel_rfl) (by kernel_rfl) (fun _ _ _ h => h) (Or.inl ⟨by rfl, ?_⟩) (by assumption) ?_
              rotate_left
              · (intro w' hS; (try dsimp only at hS); go_simp; try with_reducible rfl)
              try simp only [Act.put, List.getElem_toArray, List.getElem_cons_succ, List.getElem_cons_zero, List.setIfInBounds_toArray, List.set_cons_zero, List.set_cons_succ]
              refine wpAnyH_take (i := 11) (v := ?_) rfl (by kernel_rfl) (by kernel_rfl) (by kernel_rfl) (fun _ _ _ h => h) (Or.inl ⟨by rfl, ?_⟩) (by assumption) ?_
              rotate_left
              · (intro w' hS; (try dsimp only at hS); go_simp; try with_reducible rfl)
              try simp only [Act.put, List.getElem_toArray, List.getElem_cons_succ, List.getElem_cons_zero, List.setIfInBounds_toArray, List.set_cons_zero, List.set_cons_succ]
              refine wpAnyH_ready (rs := [2, 6]) (by kernel_rfl) (by simp) ?_
              refine AllReadyH.cons rfl (fun K hK => ?_) (AllReadyH.cons rfl (fun K hK => ?_) (AllReadyH.nil))
              · have rE1 := World.ownsRow_made (e := 38) (size := 3) (W10.drew) #[] 0 (HB0.out.size) (by unfold maxLen; omega) rfl
                have hb1 := HB0.out.alloc HB0.out.size (.cells #[] 38)
                go_simp
                refine hK.out _ _ (HSc.out _ hb1) (fun hHeld => ?_)
                clear hK K
                try simp only [Act.put, List.getElem_toArray, List.getElem_cons_succ, List.getElem_cons_zero, List.setIfInBounds_toArray, List.set_cons_zero, List.set_cons_succ]
                refine wpAnyH_ready (rs := [4, 6]) (by kernel_rfl) (by simp) ?_
                refine AllReadyH.cons rfl (fun K hK => ?_) (AllReadyH.cons rfl (fun K hK => ?_) (AllReadyH.nil))
                · have hd2 := HHs.out _ hb1
                  refine step_append_any _ (by rfl) _ _ 27 (by rfl) W10.heap.size 38 i0 (.agg #[.int .i64 0, .int .i64 0, .bool false]) 3 24 Try.underlying27 hi hz0 hz1 hz2 rfl (by decide) _ 0 0 [] (by rfl) rE1 ⟨g, 0, none⟩ M.length cM (rowM M) (by rfl) (rowM_length M) (fun j u hu => hd2.cells (g := g) rfl j u hu) (rowM_one _) (by unfold maxLen; omega) (by omega) hb1.size ?_
                  intro g11 c11 w11 hown11 hgr11 hat11 hlt11
                  have hb2 : Below W10.drew.heap.size W10.drew w11 := hb1.grown hgr11 hb1.size (fun q hq => (sj hq) ▸ (rE1.lt _ rfl).1)
                  rw [Nat.zero_add, List.nil_append] at hown11
                  refine hK.out _ _ (HSc.out _ hb2) (fun hHeld => ?_)
                  clear hK K
                  try simp only [Nat.zero_add, Act.put, List.getElem_toArray, List.getElem_cons_succ, List.getElem_cons_zero, List.setIfInBounds_toArray, List.set_cons_zero, List.set_cons_succ]
                  refine wpAnyH_ready (rs := [6]) (by kernel_rfl) (by simp) ?_
                  refine AllReadyH.cons rfl (fun K hK => ?_) (AllReadyH.nil)
                  · have bD3 := heap_alloc_new (w11) (.cells #[.int .i64 x, .int .i64 y, .bool bb] 38)
                    have hb3 := hb2.alloc hb2.size (.cells #[.int .i64 x, .int .i64 y, .bool bb] 38)
                    have rM3 := hown11.alloc (.cells #[.int .i64 x, .int .i64 y, .bool bb] 38)
                    go_simp
                    refine hK.out _ _ (HSc.out _ hb3) (fun hHeld => ?_)
                    clear hK K
                    try simp only [Act.put, List.getElem_toArray, List.getElem_cons_succ, List.getElem_cons_zero, List.setIfInBounds_toArray, List.set_cons_zero, List.set_cons_succ]
                    refine wpAnyH_ready (rs := [7]) (by kernel_rfl) (by simp) ?_
                    refine AllReadyH.cons rfl (fun K hK => ?_) (AllReadyH.nil)
                    · refine step_append_any _ (by rfl) _ _ 27 (by rfl) W10.heap.size 38 i0 (.agg #[.int .i64 0, .int .i64 0, .bool false]) 3 24 Try.underlying27 hi hz0 hz1 hz2 rfl (by decide) g11 M.length c11 (rowM M) (by rfl) rM3 ⟨_, 0, none⟩ 1 1 [.int .i64 x, .int .i64 y, .bool bb] (by rfl) rfl (World.news_of_block (cs := #[.int .i64 x, .int .i64 y, .bool bb]) (t := 38) (fr := (0, 0)) bD3) (by simp [Value.oneCell']) (by unfold maxLen; omega) (by omega) hb3.size ?_
                      intro g12 c12 w12 hown12 hgr12 hat12 hlt12
                      have hb4 : Below W10.drew.heap.size W10.drew w12 := hb3.grown hgr12 hb3.size (fun q hq => (sj hq) ▸ (rM3.lt _ rfl).1)
                      have HH12 := Lib.hid (show Hd w12 g12 c12 (M ++ [dmN c bb]) by unfold Hd; rw [HXY.out, List.length_append, List.length_singleton, rowM_snoc]; exact Reg.own_base hown12 (Nat.zero_le _))
                      have T12 := HT10.out.on hb4
                      clear hown12 hgr12 hat12 hown11 hgr11 hat11
                      refine hK.out _ _ (HSc.out _ hb4) (fun hHeld => ?_)
                      clear hK K
                      try simp only [Act.put, List.getElem_toArray, List.getElem_cons_succ, List.getElem_cons_zero, List.setIfInBounds_toArray, List.set_cons_zero, List.set_cons_succ]
                      refine wpAnyH_ready (rs := [12]) (by kernel_rfl) (by simp) ?_
                      refine AllReadyH.cons rfl (fun K hK => ?_) (AllReadyH.nil)
                      · go_simp
                        rw [HWr.out]
                        refine (HIr.out _ _ _ (HHr.out.below T12.bel hB) (by have := T12.bel.size; omega) HH12.out).mono ?_
                        rintro e w13 ⟨g13, c13, rfl, hss13, hb13⟩
                        have T13 := T12.on hb13
                        obtain ⟨S13, q1, q2⟩ := hss13
                        obtain ⟨S, s1, s2⟩ := T12.out
                        have hbx12 := T12.box.lt
                        have HI13 := Lib.hid ((s2.on hb13).app q2 (by omega) (Nat.le_refl _) hb13.size)
                        have HS13 := Lib.hid (Reg.own_below s1 hb13 (Nat.le_refl _))
                        have HQ13 := Lib.hid q1.1
                        have hs13 := T13.box.lt
                        have hb5 := hb4.trans (hb13.mono hb4.size)
                        have Z13 := At3.on (W := W10.drew) Z10 hb5
                        have hpg := row_ne_box HS13.out Z13 (by decide)
                        clear s1 s2 q1 q2
                        go_wp2_with fail
                        refine hK.out _ _ (HSc.out _ hb5) (fun hHeld => ?_)
                        clear hK K
                        try simp only [Act.put, List.getElem_toArray, List.getElem_cons_succ, List.getElem_cons_zero, List.setIfInBounds_toArray, List.set_cons_zero, List.set_cons_succ]
                        refine wpAnyH_ready (rs := [13]) (by kernel_rfl) (by simp) ?_
                        refine AllReadyH.cons rfl (fun K hK => ?_) (AllReadyH.nil)
                        · have a1 : (outs h S13).length = R.length * 1 := HQ13.out.1
                          have a2 : L.length + R.length ≤ maxLen := by unfold maxLen; omega
                          have a3 : (L.length + R.length) * 24 ≤ 140737488355328 := by omega
                          have a4 : w.heap.size + 1 ≤ w13.heap.size := by omega
                          have a5 := outs_one h S13
                          have a6 : ∀ j u, (outs h S13)[j]? = some u → w13.cell? ((⟨g13, 0, none⟩ : Addr).add j) = some u := fun j u hu => HQ13.out.cells (g := g13) rfl j u hu
                          have a7 := HS13.out
                          refine step_append_any _ (by rfl) _ _ 81 (by rfl) (w.heap.size + 1) 27 j0 (.slice none 0 0) 1 24 Try.underlying81 hj hy0 hy1 hy2 rfl (by decide) go L.length co (outs h S) (by rfl) a7 ⟨g13, 0, none⟩ R.length c13 (outs h S13) (by rfl) a1 a6 a5 a2 a3 a4 ?_
                          intro g14 c14 w14 hown14 hgr14 hat14 hlt14
                          have T14 := T13.app S HS13.out HI13.out (by rw [List.length_append]) hgr14 hat14 hown14
                          have Z14 : At3 38 w14 p x y bb := (hgr14.block _ (lt_of_block Z13) (fun q => hpg (sj q))).trans Z13
                          clear hown14 hgr14 hat14
                          refine hK.out _ _ ⟨T14.box.c0, Z14.c0, Z14.c1, Z14.c2⟩ (fun hHeld => ?_)
                          clear hK K
                          try simp only [Act.put, List.getElem_toArray, List.getElem_cons_succ, List.getElem_cons_zero, List.setIfInBounds_toArray, List.set_cons_zero, List.set_cons_succ]
                          refine wpAnyH_take (i := 14) (v := ?_) rfl (by kernel_rfl) (by kernel_rfl) (by kernel_rfl) (fun _ _ _ h => h) (Or.inl ⟨by rfl, ?_⟩) (by assumption) ?_
                          rotate_left
                          · (intro w' hS; (try dsimp only at hS); go_simp; try with_reducible rfl)
                          try simp only [Act.put, List.getElem_toArray, List.getElem_cons_succ, List.getElem_cons_zero, List.setIfInBounds_toArray, List.set_cons_zero, List.set_cons_succ]
                          refine wpAnyH_done (by kernel_rfl) ?_ _
                          refine NoPanic.normal ?_
                          have HR2 := Lib.hid (show L ++ R = (pre xs M c (t + 1)).take most by rw [HMr.out])
                          have HLn := Lib.hid (show L.length + R.length = (L ++ R).length by rw [List.length_append])
                          clear hHeld
                          go_wp2
                          go_roundw
                          case rel => exact ⟨t + 1, L ++ R, g14, c14, by omega, by go_num, by rw [HLn.out], T14, HR2⟩
                          case measure => (simp [intOf] <;> omega)
                · have bD7 := heap_alloc_new (((W10.drew).alloc (.cells #[] 38))) (.cells #[.int .i64 x, .int .i64 y, .bool bb] 38)
                  have hb7 := hb1.alloc hb1.size (.cells #[.int .i64 x, .int .i64 y, .bool bb] 38)
                  have rE7 := rE1.alloc (.cells #[.int .i64 x, .int .i64 y, .bool bb] 38)
                  have hz7 : ((W10.drew).alloc (.cells #[] 38)).heap.size = W10.heap.size + 1 := by show ((W10.drew).alloc _).heap.size = W10.drew.heap.size + 1; simp
                  rw [hz7] at bD7
                  go_simp
                  refine hK.out _ _ (HSc.out _ hb7) (fun hHeld => ?_)
                  clear hK K
                  try simp only [Act.put, List.getElem_toArray, List.getElem_cons_succ, List.getElem_cons_zero, List.setIfInBounds_toArray, List.set_cons_zero, List.set_cons_succ]
                  refine wpAnyH_ready (rs := [4]) (by kernel_rfl) (by simp) ?_
                  refine AllReadyH.cons rfl (fun K hK => ?_) (AllReadyH.nil)
                  · have hd8 := HHs.out _ hb7
                    refine step_append_any _ (by rfl) _ _ 27 (by rfl) W10.heap.size 38 i0 (.agg #[.int .i64 0, .int .i64 0, .bool false]) 3 24 Try.underlying27 hi hz0 hz1 hz2 rfl (by decide) _ 0 0 [] (by rfl) rE7 ⟨g, 0, none⟩ M.length cM (rowM M) (by rfl) (rowM_length M) (fun j u hu => hd8.cells (g := g) rfl j u hu) (rowM_one _) (by unfold maxLen; omega) (by omega) hb7.size ?_
                    intro g11 c11 w11 hown11 hgr11 hat11 hlt11
                    have hb8 : Below W10.drew.heap.size W10.drew w11 := hb7.grown hgr11 hb7.size (fun q hq => (sj hq) ▸ (rE7.lt _ rfl).1)
                    rw [Nat.zero_add, List.nil_append] at hown11
                    have bD8 := (hgr11.block _ (lt_of_block bD7) (fun q => by have q2 := sj q; simp at q2)).trans bD7
                    refine hK.out _ _ (HSc.out _ hb8) (fun hHeld => ?_)
                    clear hK K
                    try simp only [Nat.zero_add, Act.put, List.getElem_toArray, List.getElem_cons_succ, List.getElem_cons_zero, List.setIfInBounds_toArray, List.set_cons_zero, List.set_cons_succ]
                    refine wpAnyH_ready (rs := [7]) (by kernel_rfl) (by simp) ?_
                    refine AllReadyH.cons rfl (fun K hK => ?_) (AllReadyH.nil)
                    · refine step_append_any _ (by rfl) _ _ 27 (by rfl) W10.heap.size 38 i0 (.agg #[.int .i64 0, .int .i64 0, .bool false]) 3 24 Try.underlying27 hi hz0 hz1 hz2 rfl (by decide) g11 M.length c11 (rowM M) (by rfl) hown11 ⟨_, 0, none⟩ 1 1 [.int .i64 x, .int .i64 y, .bool bb] (by rfl) rfl (World.news_of_block (cs := #[.int .i64 x, .int .i64 y, .bool bb]) (t := 38) (fr := (0, 0)) bD8) (by simp [Value.oneCell']) (by unfold maxLen; omega) (by omega) hb8.size ?_
                      intro g12 c12 w12 hown12 hgr12 hat12 hlt12
                      have hb9 : Below W10.drew.heap.size W10.drew w12 := hb8.grown hgr12 hb8.size (fun q hq => (sj hq) ▸ (hown11.lt _ rfl).1)
                      have HH12 := Lib.hid (show Hd w12 g12 c12 (M ++ [dmN c bb]) by unfold Hd; rw [HXY.out, List.length_append, List.length_singleton, rowM_snoc]; exact Reg.own_base hown12 (Nat.zero_le _))
                      have T12 := HT10.out.on hb9
                      clear hown12 hgr12 hat12 hown11 hgr11 hat11
                      refine hK.out _ _ (HSc.out _ hb9) (fun hHeld => ?_)
                      clear hK K
                      try simp only [Act.put, List.getElem_toArray, List.getElem_cons_succ, List.getElem_cons_zero, List.setIfInBounds_toArray, List.set_cons_zero, List.set_cons_succ]
                      refine wpAnyH_ready (rs := [12]) (by kernel_rfl) (by simp) ?_
                      refine AllReadyH.cons rfl (fun K hK => ?_) (AllReadyH.nil)
                      · go_simp
                        rw [HWr.out]
                        refine (HIr.out _ _ _ (HHr.out.below T12.bel hB) (by have := T12.bel.size; omega) HH12.out).mono ?_
                        rintro e w13 ⟨g13, c13, rfl, hss13, hb13⟩
                        have T13 := T12.on hb13
                        obtain ⟨S13, q1, q2⟩ := hss13
                        obtain ⟨S, s1, s2⟩ := T12.out
                        have hbx12 := T12.box.lt
                        have HI13 := Lib.hid ((s2.on hb13).app q2 (by omega) (Nat.le_refl _) hb13.size)
                        have HS13 := Lib.hid (Reg.own_below s1 hb13 (Nat.le_refl _))
                        have HQ13 := Lib.hid q1.1
                        have hs13 := T13.box.lt
                        have hb10 := hb9.trans (hb13.mono hb9.size)
                        have Z13 := At3.on (W := W10.drew) Z10 hb10
                        have hpg := row_ne_box HS13.out Z13 (by decide)
                        clear s1 s2 q1 q2
                        go_wp2_with fail
                        refine hK.out _ _ (HSc.out _ hb10) (fun hHeld => ?_)
                        clear hK K
                        try simp only [Act.put, List.getElem_toArray, List.getElem_cons_succ, List.getElem_cons_zero, List.setIfInBounds_toArray, List.set_cons_zero, List.set_cons_succ]
                        refine wpAnyH_ready (rs := [13]) (by kernel_rfl) (by simp) ?_
                        refine AllReadyH.cons rfl (fun K hK => ?_) (AllReadyH.nil)
                        · have a1 : (outs h S13).length = R.length * 1 := HQ13.out.1
                          have a2 : L.length + R.length ≤ maxLen := by unfold maxLen; omega
                          have a3 : (L.length + R.length) * 24 ≤ 140737488355328 := by omega
                          have a4 : w.heap.size + 1 ≤ w13.heap.size := by omega
                          have a5 := outs_one h S13
                          have a6 : ∀ j u, (outs h S13)[j]? = some u → w13.cell? ((⟨g13, 0, none⟩ : Addr).add j) = some u := fun j u hu => HQ13.out.cells (g := g13) rfl j u hu
                          have a7 := HS13.out
                          refine step_append_any _ (by rfl) _ _ 81 (by rfl) (w.heap.size + 1) 27 j0 (.slice none 0 0) 1 24 Try.underlying81 hj hy0 hy1 hy2 rfl (by decide) go L.length co (outs h S) (by rfl) a7 ⟨g13, 0, none⟩ R.length c13 (outs h S13) (by rfl) a1 a6 a5 a2 a3 a4 ?_
                          intro g14 c14 w14 hown14 hgr14 hat14 hlt14
                          have T14 := T13.app S HS13.out HI13.out (by rw [List.length_append]) hgr14 hat14 hown14
                          have Z14 : At3 38 w14 p x y bb := (hgr14.block _ (lt_of_block Z13) (fun q => hpg (sj q))).trans Z13
                          clear hown14 hgr14 hat14
                          refine hK.out _ _ ⟨T14.box.c0, Z14.c0, Z14.c1, Z14.c2⟩ (fun hHeld => ?_)
                          clear hK K
                          try simp only [Act.put, List.getElem_toArray, List.getElem_cons_succ, List.getElem_cons_zero, List.setIfInBounds_toArray, List.set_cons_zero, List.set_cons_succ]
                          refine wpAnyH_take (i := 14) (v := ?_) rfl (by kernel_rfl) (by kernel_rfl) (by kernel_rfl) (fun _ _ _ h => h) (Or.inl ⟨by rfl, ?_⟩) (by assumption) ?_
                          rotate_left
                          · (intro w' hS; (try dsimp only at hS); go_simp; try with_reducible rfl)
                          try simp only [Act.put, List.getElem_toArray, List.getElem_cons_succ, List.getElem_cons_zero, List.setIfInBounds_toArray, List.set_cons_zero, List.set_cons_succ]
                          refine wpAnyH_done (by kernel_rfl) ?_ _
                          refine NoPanic.normal ?_
                          have HR2 := Lib.hid (show L ++ R = (pre xs M c (t + 1)).take most by rw [HMr.out])
                          have HLn := Lib.hid (show L.length + R.length = (L ++ R).length by rw [List.length_append])
                          clear hHeld
                          go_wp2
                          go_roundw
                          case rel => exact ⟨t + 1, L ++ R, g14, c14, by omega, by go_num, by rw [HLn.out], T14, HR2⟩
                          case measure => (simp [intOf] <;> omega)
              · have bD12 := heap_alloc_new (W10.drew) (.cells #[.int .i64 x, .int .i64 y, .bool bb] 38)
                have hb12 := HB0.out.alloc HB0.out.size (.cells #[.int .i64 x, .int .i64 y, .bool bb] 38)
                go_simp
                refine hK.out _ _ (HSc.out _ hb12) (fun hHeld => ?_)
                clear hK K
                try simp only [Act.put, List.getElem_toArray, List.getElem_cons_succ, List.getElem_cons_zero, List.setIfInBounds_toArray, List.set_cons_zero, List.set_cons_succ]
                refine wpAnyH_ready (rs := [2]) (by kernel_rfl) (by simp) ?_
                refine AllReadyH.cons rfl (fun K hK => ?_) (AllReadyH.nil)
                · have rE13 := World.ownsRow_made (e := 38) (size := 3) (((W10.drew).alloc (.cells #[.int .i64 x, .int .i64 y, .bool bb] 38))) #[] 0 (hb12.size) (by unfold maxLen; omega) rfl
                  have hb13 := hb12.alloc hb12.size (.cells #[] 38)
                  have bD13 := (Below.heap_alloc (((W10.drew).alloc (.cells #[.int .i64 x, .int .i64 y, .bool bb] 38))) (.cells #[] 38) _ (lt_of_block bD12)).trans bD12
                  have hz13 : ((W10.drew).alloc (.cells #[.int .i64 x, .int .i64 y, .bool bb] 38)).heap.size = W10.heap.size + 1 := by show ((W10.drew).alloc _).heap.size = W10.drew.heap.size + 1; simp
                  rw [hz13] at rE13
                  go_simp
                  refine hK.out _ _ (HSc.out _ hb13) (fun hHeld => ?_)
                  clear hK K
                  try simp only [Act.put, List.getElem_toArray, List.getElem_cons_succ, List.getElem_cons_zero, List.setIfInBounds_toArray, List.set_cons_zero, List.set_cons_succ]
                  refine wpAnyH_ready (rs := [4]) (by kernel_rfl) (by simp) ?_
                  refine AllReadyH.cons rfl (fun K hK => ?_) (AllReadyH.nil)
                  · have hd14 := HHs.out _ hb13
                    refine step_append_any _ (by rfl) _ _ 27 (by rfl) W10.heap.size 38 i0 (.agg #[.int .i64 0, .int .i64 0, .bool false]) 3 24 Try.underlying27 hi hz0 hz1 hz2 rfl (by decide) _ 0 0 [] (by rfl) rE13 ⟨g, 0, none⟩ M.length cM (rowM M) (by rfl) (rowM_length M) (fun j u hu => hd14.cells (g := g) rfl j u hu) (rowM_one _) (by unfold maxLen; omega) (by omega) hb13.size ?_
                    intro g11 c11 w11 hown11 hgr11 hat11 hlt11
                    have hb14 : Below W10.drew.heap.size W10.drew w11 := hb13.grown hgr11 hb13.size (fun q hq => (sj hq) ▸ (rE13.lt _ rfl).1)
                    rw [Nat.zero_add, List.nil_append] at hown11
                    have bD14 := (hgr11.block _ (lt_of_block bD13) (fun q => by have q2 := sj q; simp at q2)).trans bD13
                    refine hK.out _ _ (HSc.out _ hb14) (fun hHeld => ?_)
                    clear hK K
                    try simp only [Nat.zero_add, Act.put, List.getElem_toArray, List.getElem_cons_succ, List.getElem_cons_zero, List.setIfInBounds_toArray, List.set_cons_zero, List.set_cons_succ]
                    refine wpAnyH_ready (rs := [7]) (by kernel_rfl) (by simp) ?_
                    refine AllReadyH.cons rfl (fun K hK => ?_) (AllReadyH.nil)
                    · refine step_append_any _ (by rfl) _ _ 27 (by rfl) W10.heap.size 38 i0 (.agg #[.int .i64 0, .int .i64 0, .bool false]) 3 24 Try.underlying27 hi hz0 hz1 hz2 rfl (by decide) g11 M.length c11 (rowM M) (by rfl) hown11 ⟨_, 0, none⟩ 1 1 [.int .i64 x, .int .i64 y, .bool bb] (by rfl) rfl (World.news_of_block (cs := #[.int .i64 x, .int .i64 y, .bool bb]) (t := 38) (fr := (0, 0)) bD14) (by simp [Value.oneCell']) (by unfold maxLen; omega) (by omega) hb14.size ?_
                      intro g12 c12 w12 hown12 hgr12 hat12 hlt12
                      have hb15 : Below W10.drew.heap.size W10.drew w12 := hb14.grown hgr12 hb14.size (fun q hq => (sj hq) ▸ (hown11.lt _ rfl).1)
                      have HH12 := Lib.hid (show Hd w12 g12 c12 (M ++ [dmN c bb]) by unfold Hd; rw [HXY.out, List.length_append, List.length_singleton, rowM_snoc]; exact Reg.own_base hown12 (Nat.zero_le _))
                      have T12 := HT10.out.on hb15
                      clear hown12 hgr12 hat12 hown11 hgr11 hat11
                      refine hK.out _ _ (HSc.out _ hb15) (fun hHeld => ?_)
                      clear hK K
                      try simp only [Act.put, List.getElem_toArray, List.getElem_cons_succ, List.getElem_cons_zero, List.setIfInBounds_toArray, List.set_cons_zero, List.set_cons_succ]
                      refine wpAnyH_ready (rs := [12]) (by kernel_rfl) (by simp) ?_
                      refine AllReadyH.cons rfl (fun K hK => ?_) (AllReadyH.nil)
                      · go_simp
                        rw [HWr.out]
                        refine (HIr.out _ _ _ (HHr.out.below T12.bel hB) (by have := T12.bel.size; omega) HH12.out).mono ?_
                        rintro e w13 ⟨g13, c13, rfl, hss13, hb13⟩
                        have T13 := T12.on hb13
                        obtain ⟨S13, q1, q2⟩ := hss13
                        obtain ⟨S, s1, s2⟩ := T12.out
                        have hbx12 := T12.box.lt
                        have HI13 := Lib.hid ((s2.on hb13).app q2 (by omega) (Nat.le_refl _) hb13.size)
                        have HS13 := Lib.hid (Reg.own_below s1 hb13 (Nat.le_refl _))
                        have HQ13 := Lib.hid q1.1
                        have hs13 := T13.box.lt
                        have hb16 := hb15.trans (hb13.mono hb15.size)
                        have Z13 := At3.on (W := W10.drew) Z10 hb16
                        have hpg := row_ne_box HS13.out Z13 (by decide)
                        clear s1 s2 q1 q2
                        go_wp2_with fail
                        refine hK.out _ _ (HSc.out _ hb16) (fun hHeld => ?_)
                        clear hK K
                        try simp only [Act.put, List.getElem_toArray, List.getElem_cons_succ, List.getElem_cons_zero, List.setIfInBounds_toArray, List.set_cons_zero, List.set_cons_succ]
                        refine wpAnyH_ready (rs := [13]) (by kernel_rfl) (by simp) ?_
                        refine AllReadyH.cons rfl (fun K hK => ?_) (AllReadyH.nil)
                        · have a1 : (outs h S13).length = R.length * 1 := HQ13.out.1
                          have a2 : L.length + R.length ≤ maxLen := by unfold maxLen; omega
                          have a3 : (L.length + R.length) * 24 ≤ 140737488355328 := by omega
                          have a4 : w.heap.size + 1 ≤ w13.heap.size := by omega
                          have a5 := outs_one h S13
                          have a6 : ∀ j u, (outs h S13)[j]? = some u → w13.cell? ((⟨g13, 0, none⟩ : Addr).add j) = some u := fun j u hu => HQ13.out.cells (g := g13) rfl j u hu
                          have a7 := HS13.out
                          refine step_append_any _ (by rfl) _ _ 81 (by rfl) (w.heap.size + 1) 27 j0 (.slice none 0 0) 1 24 Try.underlying81 hj hy0 hy1 hy2 rfl (by decide) go L.length co (outs h S) (by rfl) a7 ⟨g13, 0, none⟩ R.length c13 (outs h S13) (by rfl) a1 a6 a5 a2 a3 a4 ?_
                          intro g14 c14 w14 hown14 hgr14 hat14 hlt14
                          have T14 := T13.app S HS13.out HI13.out (by rw [List.length_append]) hgr14 hat14 hown14
                          have Z14 : At3 38 w14 p x y bb := (hgr14.block _ (lt_of_block Z13) (fun q => hpg (sj q))).trans Z13
                          clear hown14 hgr14 hat14
                          refine hK.out _ _ ⟨T14.box.c0, Z14.c0, Z14.c1, Z14.c2⟩ (fun hHeld => ?_)
                          clear hK K
                          try simp only [Act.put, List.getElem_toArray, List.getElem_cons_succ, List.getElem_cons_zero, List.setIfInBounds_toArray, List.set_cons_zero, List.set_cons_succ]
                          refine wpAnyH_take (i := 14) (v := ?_) rfl (by kernel_rfl) (by kernel_rfl) (by kernel_rfl) (fun _ _ _ h => h) (Or.inl ⟨by rfl, ?_⟩) (by assumption) ?_
                          rotate_left
                          · (intro w' hS; (try dsimp only at hS); go_simp; try with_reducible rfl)
                          try simp only [Act.put, List.getElem_toArray, List.getElem_cons_succ, List.getElem_cons_zero, List.setIfInBounds_toArray, List.set_cons_zero, List.set_cons_succ]
                          refine wpAnyH_done (by kernel_rfl) ?_ _
                          refine NoPanic.normal ?_
                          have HR2 := Lib.hid (show L ++ R = (pre xs M c (t + 1)).take most by rw [HMr.out])
                          have HLn := Lib.hid (show L.length + R.length = (L ++ R).length by rw [List.length_append])
                          clear hHeld
                          go_wp2
                          go_roundw
                          case rel => exact ⟨t + 1, L ++ R, g14, c14, by omega, by go_num, by rw [HLn.out], T14, HR2⟩
                          case measure => (simp [intOf] <;> omega)
--R11 END--
      · have hLc := HSt.out t L ht hL.out (by omega)
        have HLc := Lib.hid (show (cont xs M).take most = L by rw [HCt.out]; exact hLc.symm)
        clear hL hLc
        by_cases ht2 : t < 2
        · have hlm : ¬ L.length < most := fun q => hgo ⟨ht2, q⟩
          go_wp2
          go_ret
          rw [HLc.out]; exact T1.post
        · go_wp2
          go_ret
          rw [HLc.out]; exact T1.post
end Go.Proofs.Ytkjoonmnedofiaa.Lis

/- The model's ListTilings alone. -/
namespace Go.Proofs.Ytkjoonmnedofiaa.LisU
set_option linter.unusedVariables false
set_option linter.unusedSimpArgs false
set_option maxRecDepth 100000
open Go.RowKit Go.Proofs.Ytkjoonmnedofiaa.Base Go.Proofs.Ytkjoonmnedofiaa.Pure Go.Proofs.Ytkjoonmnedofiaa.Cell Go.Proofs.Ytkjoonmnedofiaa.Cels Go.Proofs.Ytkjoonmnedofiaa.Dom Go.Proofs.Ytkjoonmnedofiaa.Dms Go.Proofs.Ytkjoonmnedofiaa.Til Go.Proofs.Ytkjoonmnedofiaa.Grd Go.Proofs.Ytkjoonmnedofiaa.Dss Go.Proofs.Ytkjoonmnedofiaa.Lis Go.Joins
open Go.Proofs.Ytkjoonmnedofiaa.Cnt (gR tiles gR_in gR_out idxs idxs_cells tilesR tilesR_ok tilesR_not)
open Go.Proofs.Ytkjoonmnedofiaa.Prof (sCountTilings)
open Go.Proofs.Ytkjoonmnedofiaa.Reg hiding Yes add_none

def allR (xs : List Int) : List (List Dm) := if okR xs then allT xs else []
theorem allR_ok {xs : List Int} (h : okR xs) : allR xs = allT xs := if_pos h
theorem allR_not {xs : List Int} (h : ¬ okR xs) : allR xs = [] := if_neg h
/-- the size of each. -/
def halfR (xs : List Int) : Nat := (cellsR xs).length / 2
theorem allR_half {xs : List Int} : ∀ L ∈ allR xs, L.length = halfR xs := by
  intro L hL
  by_cases h : okR xs
  · rw [allR_ok h] at hL; exact all_half h L hL
  · rw [allR_not h] at hL; cases hL
def SSP (L : List (List Dm)) (h : Nat) (w : World) (e : Ending) (w' : World) : Prop := ∃ A cap, e = .returned (.slice A L.length cap) ∧ SSIn w' w.heap.size w'.heap.size A L.length cap h L ∧ Below w.heap.size w w'
/-- what ListTilings answers. -/
def listR (xs : List Int) : List (List Dm) := if (allR xs).length ≤ 300 then allR xs else []
theorem listR_small (xs : List Int) : (listR xs).length ≤ 300 := by unfold listR; split <;> simp_all
theorem listR_half {xs : List Int} : ∀ L ∈ listR xs, L.length = halfR xs := by
  intro L hL
  unfold listR at hL
  split at hL
  · exact allR_half L hL
  · cases hL
theorem halfR_le (xs : List Int) : halfR xs ≤ 32 := by unfold halfR; have := cellsR_length xs; omega
theorem allR_count (xs : List Int) : ((allR xs).length : Int) = tilesR xs := by
  by_cases h : okR xs
  · rw [allR_ok h, all_length h]
  · rw [allR_not h, tilesR_not h]; rfl

set_option maxHeartbeats 1000000 in
theorem sListTilings (w : World) (A : Option Addr) (n cap B : Nat) (xs : List Int) (hx : xs.length = n) (hn : (n : Int) ≤ 9223372036854775807) (hrow : RowB w B A xs) (hB : B ≤ w.heap.size) :
    Calls Try.prog 56 #[.agg #[.slice A n cap]] w (SSP (listR xs) (halfR xs) w) := by
  have HCt := Lib.hid (fun W (hb : Below w.heap.size w W) => sCountTilings W A n cap B xs hx hn (hrow.below hb hB) (by have := hb.size; omega))
  have HR := Lib.hid (Rg.new w (.slice A n cap))
  have HS := Lib.hid (below_alloc1 w (.cells #[.slice A n cap] 26))
  have hcnt := allR_count xs
  have HIn := Lib.hid (fun W => l01In (tilesR xs) 1 300 W)
  by_cases hin : 1 ≤ tilesR xs ∧ tilesR xs ≤ 300
  · have ho : okR xs := by
      by_cases q : okR xs
      · exact q
      · rw [tilesR_not q] at hin; omega
    rw [inB_of hin] at HIn
    have HL := Lib.hid (fun W (hb : Below w.heap.size w W) (g : Nat) (hd : Hd W g 0 []) => by
      have := sList xs n hx ho A cap B (halfR xs) rfl 65 W (hrow.below hb hB) (by have := hb.size; omega) [] 0 (Beg.zero xs) (Nat.zero_le _) (fun i hi => by omega) (by have := unc_length [] (cellsR xs); have := cellsR_length xs; omega) g 0 hd (by simp) 300 (by omega) (Nat.le_refl _)
      rw [show List.take 300 (cont xs []) = listR xs by
        unfold listR
        rw [if_pos (by omega), cont_nil, allR_ok ho]
        rw [allR_ok ho] at hcnt
        exact List.take_of_length_le (by show (allT xs).length ≤ 300; omega)] at this
      exact show Calls Try.prog 80 #[.agg #[.slice A n cap], .slice (some ⟨g, 0, none⟩) 0 0, .int .i64 300] W (SSPost (listR xs) (halfR xs) W) from this)
    have HMd := Lib.hid (fun (W : World) => World.ownsRow_made (base := 0) (e := 38) (size := 3) W #[] 0 (Nat.zero_le _) (by unfold maxLen; omega) rfl)
    generalize tilesR xs = q at HCt HIn
    generalize halfR xs = h at HL ⊢
    generalize listR xs = L at HL ⊢
    clear hcnt hin ho hx hn hrow hB
    go_enter Try.func56, Try.ntmps56
    go_wp2_with fail
    have c0 := HR.out.c0
    have R0 := HR.out
    have B0 := HS.out
    generalize w.alloc (.cells #[.slice A n cap] 26) = W0 at c0 R0 B0 ⊢
    refine (HCt.out _ B0).mono ?_
    rintro e w1 ⟨rfl, hb1⟩
    have R1 := R0.on hb1
    have B1 := B0.trans (hb1.mono B0.size)
    clear R0 B0 hb1 HR HS HCt c0
    go_wp2_with fail
    refine (HIn.out _).mono ?_
    rintro e w2 ⟨rfl, hw⟩
    have hw := hw.symm
    subst hw
    have c1 := R1.c0
    have B2 := B1.alloc B1.size (.cells #[] 38)
    have hsz := B1.size
    go_wp2_with fail
    refine (HL.out _ B2 _ (HMd.out w1)).mono ?_
    rintro e w3 ⟨g, c, rfl, hss, hb3⟩
    have HP := Lib.hid (show SSP L h w (.returned (.slice (some ⟨g, 0, none⟩) L.length c)) w3 from ⟨_, c, rfl, hss.wide (by simp; omega) (Nat.le_refl _), B2.trans (hb3.mono B2.size)⟩)
    clear hss hb3 HL HMd
    go_wp2
    go_ret
    exact HP.out
  · have hE : listR xs = [] := by
      unfold listR
      split
      · exact List.eq_nil_of_length_eq_zero (by omega)
      · rfl
    rw [inB_not hin] at HIn
    have HP := Lib.hid (fun (w1 : World) (hb : Below w.heap.size w w1) => show SSP (listR xs) (halfR xs) w (.returned (.slice (some ⟨w1.heap.size, 0, none⟩) 0 0)) (w1.alloc (.cells #[] 27)) by
      rw [hE]
      have hn := World.ownsRow_made (base := w.heap.size) (e := 27) (size := 1) w1 #[] 0 hb.size (by unfold maxLen; omega) rfl
      exact ⟨_, 0, rfl, ⟨[], ⟨hn, fun g hg => (hn.lt g hg).2⟩, Ins.nil _ _ _ _⟩, hb.alloc hb.size _⟩)
    generalize tilesR xs = q at HCt HIn
    clear hcnt hin hE hx hn hrow hB
    go_enter Try.func56, Try.ntmps56
    go_wp2_with fail
    have c0 := HR.out.c0
    have B0 := HS.out
    generalize w.alloc (.cells #[.slice A n cap] 26) = W0 at c0 B0 ⊢
    refine (HCt.out _ B0).mono ?_
    rintro e w1 ⟨rfl, hb1⟩
    have B1 := B0.trans (hb1.mono B0.size)
    clear B0 hb1 HR HS HCt c0
    go_wp2_with fail
    refine (HIn.out _).mono ?_
    rintro e w2 ⟨rfl, hw⟩
    have hw := hw.symm
    subst hw
    go_wp2
    go_ret
    exact HP.out _ B1

end Go.Proofs.Ytkjoonmnedofiaa.LisU

/- A region and a tiling of it, drawn out of a code. -/
namespace Go.Proofs.Ytkjoonmnedofiaa.Tile
set_option linter.unusedVariables false
set_option maxRecDepth 100000
set_option linter.unusedSimpArgs false
open Go.RowKit Go.Proofs.Ytkjoonmnedofiaa.Base Go.Proofs.Ytkjoonmnedofiaa.Pure Go.Proofs.Ytkjoonmnedofiaa.Cell Go.Proofs.Ytkjoonmnedofiaa.Reg Go.Proofs.Ytkjoonmnedofiaa.Draw Go.Proofs.Ytkjoonmnedofiaa.Dms Go.Proofs.Ytkjoonmnedofiaa.Til Go.Proofs.Ytkjoonmnedofiaa.Dss Go.Proofs.Ytkjoonmnedofiaa.LisU Go.Joins
open Go.Proofs.Ytkjoonmnedofiaa.Cnt (tilesR)

theorem own_kept {w w' : World} {base e size n g : Nat} {v : Value} {xs : List Value} (h : w.ownsRow base e size v n xs) (hg : w.grownBy w' (some g)) (hb : g < base) : w'.ownsRow base e size v n xs :=
  h.kept hg (by
    cases hv : v.ownBlock with
    | none => exact .inl rfl
    | some q => right; intro e; injection e with e; have := (h.lt q hv).1; omega)
/-- an ending with a region and a tiling of it. -/
def DrewQ (w : World) (B g : Nat) (A : Option Addr) (len cap : Nat) (e : Ending) (w' : World) : Prop :=
  ∃ (ys : List Int) (A2 : Option Addr) (n c2 : Nat) (L : List Dm) (A3 : Option Addr) (c3 : Nat), Hid (okR ys ∧ tilB ys L = true ∧ L.length ≤ 32) ∧ Hid (ys.length = n) ∧ e = .returned (.tuple #[.agg #[.slice A2 n c2], .slice A3 L.length c3]) ∧ w'.ownsRow w.heap.size 3 1 (.slice A2 n c2) n (ints ys) ∧ w'.ownsRow w.heap.size 38 3 (.slice A3 L.length c3) L.length (rowM L) ∧ w.grownBy w' (some g)
theorem tiling_any {ys : List Int} (h : okR ys ∧ 1 ≤ tilesR ys ∧ tilesR ys ≤ 300) : 0 < (listR ys).length ∧ (listR ys).length ≤ 300 ∧ halfR ys ≤ 32 ∧ ∀ L ∈ listR ys, okR ys ∧ tilB ys L = true ∧ L.length = halfR ys := by
  have hc := allR_count ys
  have e : listR ys = allR ys := by unfold listR; rw [if_pos (by omega)]
  refine ⟨by rw [e]; omega, listR_small ys, halfR_le ys, fun L hL => ⟨h.1, ?_, listR_half L hL⟩⟩
  rw [e, allR_ok h.1] at hL
  exact Lis.all_til h.1 L hL
set_option maxHeartbeats 4000000 in
theorem tilingC (w : World) (B g : Nat) (A : Option Addr) (len cap : Nat) (h0 : Cur w B g A len cap) :
    Calls Try.prog 35 #[.pointer (some ⟨g, 0, none⟩)] w (DrewQ w B g A len cap) := by
  have hgw := h0.lt
  have HC0 := Lib.hid (h0.alloc (.cells #[.slice none 0 0] 26))
  have HG0 := Lib.hid (World.grownBy_alloc w (.cells #[.slice none 0 0] 26) (some g))
  have HR0 := Lib.hid (heap_alloc_new w (.cells #[.slice none 0 0] 26))
  have hz0 : (w.alloc (.cells #[.slice none 0 0] 26)).heap.size = w.heap.size + 1 := by simp
  clear h0
  go_enter Try.func35, Try.ntmps35
  go_wp2_with fail
  generalize w.alloc (.cells #[.slice none 0 0] 26) = W0 at HC0 HG0 HR0 hz0 ⊢
  refine (tileRegion W0 B g A len cap HC0.out).mono ?_
  rintro e w1 ⟨ys, A2, n, c2, hok, hl, rfl, hown, hg1, hc1⟩
  have hs1 := hg1.size
  have HG1 := Lib.hid (grown_trans HG0.out hg1)
  have HR1 := Lib.hid ((hg1.block w.heap.size (by omega) (fun q => by injection q; omega)).trans HR0.out)
  have HO1 := Lib.hid hown
  have HCu1 := Lib.hid hc1
  have HT := Lib.hid (tiling_any hok.out)
  have hn : n ≤ 8 := by have := hok.out.1.1; have := hl.out; omega
  clear HC0 HG0 HR0 hown hg1 hc1
  go_upto_region 2 with fail
  have k1 := heap_alloc_new w1 (.cells #[.slice A2 n c2] 26)
  have hb2 := below_alloc1 w1 (.cells #[.slice A2 n c2] 26)
  generalize w1.alloc (.cells #[.slice A2 n c2] 26) = W2 at k1 hb2 ⊢
  have hs2 := hb2.size
  have hlt2 : w1.heap.size < W2.heap.size := (Array.getElem?_eq_some_iff.1 k1).1
  have hbase : g < W0.heap.size := by omega
  have HO2 := Lib.hid (own_below HO1.out hb2 (Nat.le_refl _))
  have c0 : W2.cell? ⟨w1.heap.size, 0, none⟩ = some (.slice A2 n c2) := (cell_of_row _ _ 0 _ _ _ k1).trans rfl
  have HLs := Lib.hid (sListTilings W2 A2 n c2 W2.heap.size ys hl.out (by omega) (rowB_own HO2.out) (Nat.le_refl _))
  generalize listR ys = LL at HLs HT
  generalize halfR ys = hh at HLs HT
  go_wp2_with fail
  refine HLs.out.mono ?_
  rintro e w3 ⟨A4, c4, rfl, ⟨S, hS, hI⟩, hb3⟩
  obtain ⟨t1, t2, t3, t4⟩ := HT.out
  have hs3 := hb3.size
  have k3 := (hb3.block _ hlt2).trans k1
  have HG3 := Lib.hid (grown_trans HG1.out (grown_below (hb2.trans (hb3.mono hs2)) (some g)))
  have HCu3 := Lib.hid (HCu1.out.later (grown_below (hb2.trans (hb3.mono hs2)) none) (by simp) (fun k hk => by cases hk))
  have HR3 := Lib.hid (((hb2.trans (hb3.mono hs2)).block w.heap.size (by omega)).trans HR1.out)
  have HO3 := Lib.hid (own_below HO2.out hb3 (Nat.le_refl _))
  have hSl := hI.1
  obtain ⟨go, cg, hv, hgo, hglt⟩ := hS.1.form (by omega)
  injection hv with hA4
  subst hA4
  obtain ⟨m, hm⟩ : ∃ m, m = LL.length := ⟨_, rfl⟩
  rw [← hm] at hS t1 t2 ⊢
  have HRow := Lib.hid hS.1
  have HI := Lib.hid hI
  have HTil := Lib.hid t4
  have HM := Lib.hid hm
  have c0 : w3.cell? ⟨w1.heap.size, 0, none⟩ = some (.slice A2 n c2) := (cell_of_row _ _ 0 _ _ _ k3).trans rfl
  have C0 := Lib.hid k3
  have hne1 : w1.heap.size ≠ g := by omega
  have hgg : go ≠ g := by have : W2.heap.size ≤ go := by first | exact hgo | exact hgo.1 | omega
                          omega
  have HBl := Lib.hid (Draw.below w3.drew B g A len cap ((m : Nat) : Int) (show Cur w3.drew B g A len cap from HCu3.out))
  clear HO1 HO2 HLs HT HG1 HR1 HCu1 hS hI hb2 hb3 k1 k3 t4 hm
  go_wp2_with fail
  refine wp_region_noPanic ?_
  refine wp_region_held_drew (S := (fun w' => w'.cell? ⟨w1.heap.size, 0, none⟩ = some (.slice A2 n c2))) (by kernel_rfl) c0 (fun hHeld => ?_)
  refine wpAnyH_take (i := 0) (v := ?_) rfl (by kernel_rfl) (by kernel_rfl) (by kernel_rfl) (fun _ _ _ h => h) (Or.inl ⟨by rfl, ?_⟩) (by assumption) ?_
  rotate_left
  · (intro w' hS; (try dsimp only at hS); go_simp; try with_reducible rfl)
  try simp only [Act.put, List.getElem_toArray, List.getElem_cons_succ, List.getElem_cons_zero, List.setIfInBounds_toArray, List.set_cons_zero, List.set_cons_succ]
  refine wpAnyH_take (i := 1) (v := ?_) rfl (by kernel_rfl) (by kernel_rfl) (by kernel_rfl) (fun _ _ _ h => h) (Or.inl ⟨by rfl, ?_⟩) (by assumption) ?_
  rotate_left
  · (intro w' hS; (try dsimp only at hS); go_simp; try with_reducible rfl)
  try simp only [Act.put, List.getElem_toArray, List.getElem_cons_succ, List.getElem_cons_zero, List.setIfInBounds_toArray, List.set_cons_zero, List.set_cons_succ]
  refine wpAnyH_take (i := 2) (v := ?_) rfl (by kernel_rfl) (by kernel_rfl) (by kernel_rfl) (fun _ _ _ h => h) (Or.inl ⟨by rfl, ?_⟩) (by assumption) ?_
  rotate_left
  · (intro w' hS; (try dsimp only at hS); go_simp; try with_reducible rfl)
  try simp only [Act.put, List.getElem_toArray, List.getElem_cons_succ, List.getElem_cons_zero, List.setIfInBounds_toArray, List.set_cons_zero, List.set_cons_succ]
  refine wpAnyH_take (i := 3) (v := ?_) rfl (by kernel_rfl) (by kernel_rfl) (by kernel_rfl) (fun _ _ _ h => h) (Or.inl ⟨by rfl, ?_⟩) (by assumption) ?_
  rotate_left
  · (intro w' hS; (try dsimp only at hS); go_simp; try with_reducible rfl)
  try simp only [Act.put, List.getElem_toArray, List.getElem_cons_succ, List.getElem_cons_zero, List.setIfInBounds_toArray, List.set_cons_zero, List.set_cons_succ]
  refine wpAnyH_take (i := 4) (v := ?_) rfl (by kernel_rfl) (by kernel_rfl) (by kernel_rfl) (fun _ _ _ h => h) (Or.inl ⟨by rfl, ?_⟩) (by assumption) ?_
  rotate_left
  · (intro w' hS; (try dsimp only at hS); go_simp; try with_reducible rfl)
  try simp only [Act.put, List.getElem_toArray, List.getElem_cons_succ, List.getElem_cons_zero, List.setIfInBounds_toArray, List.set_cons_zero, List.set_cons_succ]
  refine wpAnyH_ready (rs := [5]) (by kernel_rfl) (by simp) ?_
  refine AllReadyH.cons rfl (fun K hK => ?_) AllReadyH.nil
  go_simp
  refine (HBl.out).mono ?_
  rintro e w4 ⟨x, hx, rfl, hc4, hg4⟩
  have hg4 : w3.grownBy w4 (some g) := ⟨hg4.os, hg4.tape, hg4.output, hg4.size, hg4.block⟩
  have hx2 := hx.2 (by omega)
  obtain ⟨i, rfl⟩ : ∃ i : Nat, x = (i : Int) := ⟨x.toNat, by omega⟩
  have hs4 := hg4.size
  have k4 := (hg4.block w1.heap.size (by omega) (fun q => by injection q; omega)).trans C0.out
  have C4 : w4.cell? ⟨w1.heap.size, 0, none⟩ = some (.slice A2 n c2) := (cell_of_row _ _ 0 _ _ _ k4).trans rfl
  have hlen := HM.out
  have him : i < m := by omega
  obtain ⟨s, hs⟩ : ∃ s, S[i]? = some s := ⟨_, List.getElem?_eq_getElem (by omega)⟩
  obtain ⟨L, hL⟩ : ∃ L, LL[i]? = some L := ⟨_, List.getElem?_eq_getElem (by omega)⟩
  clear hlen hSl
  have HRow4 := own_kept HRow.out hg4 (by omega)
  have e1 := HRow4.cells (g := go) rfl i _ (outs_at hs)
  rw [Base.add_plain] at e1
  have HR4 := (hg4.block w.heap.size (by omega) (fun q => by injection q; omega)).trans HR3.out
  obtain ⟨f1, f2⟩ := cellAt HR4 0
  have f1 : w4.cell? ⟨w.heap.size, 0, none⟩ = some (.slice none 0 0) := f1.trans rfl
  have hi0 : (0 : Int) ≤ (i : Int) := by omega
  have hi1 : (i : Int) < (m : Int) := by omega
  go_wp2_with fail
  refine hK.out _ _ C4 (fun hHeld => ?_)
  clear hK K
  try simp only [Act.put, List.getElem_toArray, List.getElem_cons_succ, List.getElem_cons_zero, List.setIfInBounds_toArray, List.set_cons_zero, List.set_cons_succ]
  refine wpAnyH_take (i := 6) (v := ?_) rfl (by kernel_rfl) (by kernel_rfl) (by kernel_rfl) (fun _ _ _ h => h) (Or.inl ⟨by rfl, ?_⟩) (by assumption) ?_
  rotate_left
  · (intro w' hS; (try dsimp only at hS); go_simp; try with_reducible rfl)
  try simp only [Act.put, List.getElem_toArray, List.getElem_cons_succ, List.getElem_cons_zero, List.setIfInBounds_toArray, List.set_cons_zero, List.set_cons_succ]
  refine wpAnyH_ready (rs := [7, 8]) (by kernel_rfl) (by simp) ?_
  refine AllReadyH.cons rfl (fun K hK => ?_) (AllReadyH.cons rfl (fun K hK => ?_) AllReadyH.nil)
  · go_simp
    refine hK.out _ _ C4 (fun hHeld => ?_)
    clear hK K
    try simp only [Act.put, List.getElem_toArray, List.getElem_cons_succ, List.getElem_cons_zero, List.setIfInBounds_toArray, List.set_cons_zero, List.set_cons_succ]
    refine wpAnyH_ready (rs := [8]) (by kernel_rfl) (by simp) ?_
    refine AllReadyH.cons rfl (fun K hK => ?_) AllReadyH.nil
    go_simp
    refine hK.out _ _ ((show (w4.setCell ⟨w.heap.size, 0, none⟩ (.slice A2 n c2)).cell? ⟨w1.heap.size, 0, none⟩ = some (.slice A2 n c2) from by rw [World.cell?_of_block (w := w4) (a := ⟨w1.heap.size, 0, none⟩) (Below.heap_setCell w4 ⟨w.heap.size, 0, none⟩ _ w1.heap.size (by show w1.heap.size ≠ w.heap.size; omega))]; exact C4)) (fun hHeld => ?_)
    clear hK K
    try simp only [Act.put, List.getElem_toArray, List.getElem_cons_succ, List.getElem_cons_zero, List.setIfInBounds_toArray, List.set_cons_zero, List.set_cons_succ]
    refine wpAnyH_take (i := 9) (v := ?_) rfl (by kernel_rfl) (by kernel_rfl) (by kernel_rfl) (fun _ _ _ h => h) (Or.inl ⟨by rfl, ?_⟩) (by assumption) ?_
    rotate_left
    · (intro w' hS; (try dsimp only at hS); go_simp; try with_reducible rfl)
    try simp only [Act.put, List.getElem_toArray, List.getElem_cons_succ, List.getElem_cons_zero, List.setIfInBounds_toArray, List.set_cons_zero, List.set_cons_succ]
    refine wpAnyH_done (by kernel_rfl) ?_ _
    refine NoPanic.normal ?_
    have hres := World.cell?_setCell_same (w := w4) ⟨w.heap.size, 0, none⟩ (.slice A2 n c2) (u := .slice none 0 0) f1
    obtain ⟨u1, u2, u3⟩ := HTil.out L (List.mem_of_getElem? hL)
    have hrl := HI.out.2.1 i s L hs hL
    have hO3 := HO3.out
    have P1 := Lib.hid (show (w4.setCell ⟨w.heap.size, 0, none⟩ (.slice A2 n c2)).ownsRow w.heap.size 3 1 (.slice A2 n c2) n (ints ys) from own_base (ownsRow_setCell_below (own_kept hO3 hg4 (by omega)) (by show w.heap.size < W0.heap.size; omega) _) (by omega))
    have P2 := Lib.hid (show (w4.setCell ⟨w.heap.size, 0, none⟩ (.slice A2 n c2)).ownsRow w.heap.size 38 3 (.slice s.1 hh s.2) hh (rowM L) from own_base (ownsRow_setCell_below (own_kept hrl.1 hg4 (by omega)) (by show w.heap.size < W2.heap.size; omega) _) (by omega))
    have b := grown_trans HG3.out hg4
    have P3 := Lib.hid (show w.grownBy (w4.setCell ⟨w.heap.size, 0, none⟩ (.slice A2 n c2)) (some g) from ⟨b.os, b.tape, b.output, by have := b.size; simpa [World.setCell] using this, fun i hi hne => (Below.heap_setCell w4 _ _ _ (by show i ≠ w.heap.size; omega)).trans (b.block i hi hne)⟩)
    clear hHeld
    go_wp2
    subst u3
    exact bodyPost_ret (v := .tuple #[.agg #[.slice A2 n c2], .slice s.1 L.length s.2]) (by simp [results, Try.results35, go_sem, hres]) rfl ⟨ys, A2, n, c2, L, s.1, s.2, Lib.hid ⟨u1, u2, t3⟩, hl, rfl, P1.out, P2.out, P3.out⟩
  · go_simp
    refine hK.out _ _ (show (w4.setCell ⟨w.heap.size, 0, none⟩ (.slice A2 n c2)).cell? ⟨w1.heap.size, 0, none⟩ = some (.slice A2 n c2) from by rw [World.cell?_of_block (w := w4) (a := ⟨w1.heap.size, 0, none⟩) (Below.heap_setCell w4 ⟨w.heap.size, 0, none⟩ _ w1.heap.size (by show w1.heap.size ≠ w.heap.size; omega))]; exact C4) (fun hHeld => ?_)
    clear hK K
    try simp only [Act.put, List.getElem_toArray, List.getElem_cons_succ, List.getElem_cons_zero, List.setIfInBounds_toArray, List.set_cons_zero, List.set_cons_succ]
    have e2 : (w4.setCell ⟨w.heap.size, 0, none⟩ (.slice A2 n c2)).cell? ⟨go, i, none⟩ = some (.slice s.1 hh s.2) := by rw [World.cell?_of_block (w := w4) (a := ⟨go, i, none⟩) (Below.heap_setCell w4 ⟨w.heap.size, 0, none⟩ _ go (by show go ≠ w.heap.size; omega))]; exact e1
    have C5 := (show (w4.setCell ⟨w.heap.size, 0, none⟩ (.slice A2 n c2)).cell? ⟨w1.heap.size, 0, none⟩ = some (.slice A2 n c2) from by rw [World.cell?_of_block (w := w4) (a := ⟨w1.heap.size, 0, none⟩) (Below.heap_setCell w4 ⟨w.heap.size, 0, none⟩ _ w1.heap.size (by show w1.heap.size ≠ w.heap.size; omega))]; exact C4)
    refine wpAnyH_ready (rs := [7]) (by kernel_rfl) (by simp) ?_
    refine AllReadyH.cons rfl (fun K hK => ?_) AllReadyH.nil
    go_simp
    refine hK.out _ _ (C5) (fun hHeld => ?_)
    clear hK K
    try simp only [Act.put, List.getElem_toArray, List.getElem_cons_succ, List.getElem_cons_zero, List.setIfInBounds_toArray, List.set_cons_zero, List.set_cons_succ]
    refine wpAnyH_take (i := 9) (v := ?_) rfl (by kernel_rfl) (by kernel_rfl) (by kernel_rfl) (fun _ _ _ h => h) (Or.inl ⟨by rfl, ?_⟩) (by assumption) ?_
    rotate_left
    · (intro w' hS; (try dsimp only at hS); go_simp; try with_reducible rfl)
    try simp only [Act.put, List.getElem_toArray, List.getElem_cons_succ, List.getElem_cons_zero, List.setIfInBounds_toArray, List.set_cons_zero, List.set_cons_succ]
    refine wpAnyH_done (by kernel_rfl) ?_ _
    refine NoPanic.normal ?_
    have hres := World.cell?_setCell_same (w := w4) ⟨w.heap.size, 0, none⟩ (.slice A2 n c2) (u := .slice none 0 0) f1
    obtain ⟨u1, u2, u3⟩ := HTil.out L (List.mem_of_getElem? hL)
    have hrl := HI.out.2.1 i s L hs hL
    have hO3 := HO3.out
    have P1 := Lib.hid (show (w4.setCell ⟨w.heap.size, 0, none⟩ (.slice A2 n c2)).ownsRow w.heap.size 3 1 (.slice A2 n c2) n (ints ys) from own_base (ownsRow_setCell_below (own_kept hO3 hg4 (by omega)) (by show w.heap.size < W0.heap.size; omega) _) (by omega))
    have P2 := Lib.hid (show (w4.setCell ⟨w.heap.size, 0, none⟩ (.slice A2 n c2)).ownsRow w.heap.size 38 3 (.slice s.1 hh s.2) hh (rowM L) from own_base (ownsRow_setCell_below (own_kept hrl.1 hg4 (by omega)) (by show w.heap.size < W2.heap.size; omega) _) (by omega))
    have b := grown_trans HG3.out hg4
    have P3 := Lib.hid (show w.grownBy (w4.setCell ⟨w.heap.size, 0, none⟩ (.slice A2 n c2)) (some g) from ⟨b.os, b.tape, b.output, by have := b.size; simpa [World.setCell] using this, fun i hi hne => (Below.heap_setCell w4 _ _ _ (by show i ≠ w.heap.size; omega)).trans (b.block i hi hne)⟩)
    clear hHeld
    go_wp2
    subst u3
    exact bodyPost_ret (v := .tuple #[.agg #[.slice A2 n c2], .slice s.1 L.length s.2]) (by simp [results, Try.results35, go_sem, hres]) rfl ⟨ys, A2, n, c2, L, s.1, s.2, Lib.hid ⟨u1, u2, t3⟩, hl, rfl, P1.out, P2.out, P3.out⟩
/-- what DrawTiling answers. -/
def TilingPost (w : World) (e : Ending) (w' : World) : Prop :=
  ∃ (ys : List Int) (A2 : Option Addr) (n c2 : Nat) (L : List Dm) (A3 : Option Addr) (c3 : Nat), Hid (okR ys ∧ tilB ys L = true ∧ L.length ≤ 32) ∧ Hid (ys.length = n) ∧ e = .returned (.tuple #[.agg #[.slice A2 n c2], .slice A3 L.length c3]) ∧ w'.ownsRow w.heap.size 3 1 (.slice A2 n c2) n (ints ys) ∧ w'.ownsRow w.heap.size 38 3 (.slice A3 L.length c3) L.length (rowM L) ∧ Below w.heap.size w w'
set_option maxHeartbeats 1000000 in
theorem drawTiling (w : World) (A : Option Addr) (len cap : Nat) (h0 : Coded w w.heap.size A len) :
    Calls Try.prog 10 #[.slice A len cap] w (TilingPost w) := by
  have hb0 := below_alloc1 w (.cells #[.slice none 0 0] 26)
  have HC := Lib.hid (show Coded (w.alloc (.cells #[.slice none 0 0] 26)) (w.alloc (.cells #[.slice none 0 0] 26)).heap.size A len from ⟨h0.1, (h0.2.below hb0).mono hb0.size⟩)
  have HR := Lib.hid (heap_alloc_new w (.cells #[.slice none 0 0] 26))
  have HZ := Lib.hid (show (w.alloc (.cells #[.slice none 0 0] 26)).heap.size = w.heap.size + 1 by simp)
  have HB := Lib.hid hb0
  clear h0 hb0
  go_enter Try.func10, Try.ntmps10
  go_wp2_with fail
  refine (new _ A len cap HC.out).mono ?_
  rintro e w1 ⟨g, rfl, hc1, hb1⟩
  have hg0 := hc1.1
  rw [HZ.out] at hg0
  have HCur := Lib.hid hc1
  have HB1 := Lib.hid (HB.out.trans (hb1.mono HB.out.size))
  have HR1 := Lib.hid ((hb1.block w.heap.size (by rw [HZ.out]; omega)).trans HR.out)
  have hz1 : w.heap.size + 1 ≤ w1.heap.size := by have := hb1.size; rw [HZ.out] at this; exact this
  clear hc1 hb1 HC HB HR HZ
  go_wp2_with fail
  refine (tilingC w1 _ g A len cap HCur.out).mono ?_
  rintro e w2 ⟨ys, A2, n, c2, L, A3, c3, hok, hl, rfl, hown, hown2, hg⟩
  have hz := hg.size
  have HR2 := Lib.hid ((hg.block w.heap.size (by omega) (fun q => by injection q; omega)).trans HR1.out)
  have HB2 := Lib.hid (HB1.out.grown hg (by omega) (fun k hk => by injection hk with hk; omega))
  have HO := Lib.hid hown
  have HO2 := Lib.hid hown2
  clear hown hown2 hg HR1 HB1 HCur
  go_upto_region 2 with fail
  have k1 := heap_alloc_new w2 (.cells #[.slice A2 n c2] 26)
  have hb3 := below_alloc1 w2 (.cells #[.slice A2 n c2] 26)
  generalize w2.alloc (.cells #[.slice A2 n c2] 26) = W3 at k1 hb3 ⊢
  have HO := Lib.hid (own_below HO.out hb3 (Nat.le_refl _))
  have HO2 := Lib.hid (own_below HO2.out hb3 (Nat.le_refl _))
  have HR3 := (hb3.block w.heap.size (by omega)).trans HR2.out
  have HB3 := Lib.hid (HB2.out.trans (hb3.mono (by omega)))
  obtain ⟨c0, f0⟩ := cellAt HR3 0
  have c0 : W3.cell? ⟨w.heap.size, 0, none⟩ = some (.slice none 0 0) := c0.trans rfl
  have d0 : W3.cell? ⟨w2.heap.size, 0, none⟩ = some (.slice A2 n c2) := (cell_of_row _ _ 0 _ _ _ k1).trans rfl
  have hres := World.cell?_setCell_same (w := W3) ⟨w.heap.size, 0, none⟩ (.slice A2 n c2) (u := .slice none 0 0) c0
  have P1 := Lib.hid (show (W3.setCell ⟨w.heap.size, 0, none⟩ (.slice A2 n c2)).ownsRow w.heap.size 3 1 (.slice A2 n c2) n (ints ys) from own_base (ownsRow_setCell_below HO.out (by show w.heap.size < w1.heap.size; omega) _) (by omega))
  have P2 := Lib.hid (show (W3.setCell ⟨w.heap.size, 0, none⟩ (.slice A2 n c2)).ownsRow w.heap.size 38 3 (.slice A3 L.length c3) L.length (rowM L) from own_base (ownsRow_setCell_below HO2.out (by show w.heap.size < w1.heap.size; omega) _) (by omega))
  clear k1 hb3 HR2 HR3 HB2 HO HO2
  go_wp2
  exact bodyPost_ret (v := .tuple #[.agg #[.slice A2 n c2], .slice A3 L.length c3]) (by simp [results, Try.results10, go_sem, hres]) rfl ⟨ys, A2, n, c2, L, A3, c3, hok, hl, rfl, P1.out, P2.out, HB3.out.setCell (Nat.le_refl _) _⟩
end Go.Proofs.Ytkjoonmnedofiaa.Tile
