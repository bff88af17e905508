/- LisT in one text. -/
import Derived.Test.YtjfagpmklifjlaaMg21
import Derived.OneCell
import Derived.Deep.RegionHeld3

namespace Go.Proofs.Ytjfagpmklifjlaa.Lis
set_option linter.unusedVariables false
set_option linter.unusedSimpArgs false
set_option maxRecDepth 100000
open Go.RowKit Go.Proofs.Ytjfagpmklifjlaa.Pure Go.Proofs.Ytjfagpmklifjlaa.Cell Go.Proofs.Ytjfagpmklifjlaa.Cels Go.Proofs.Ytjfagpmklifjlaa.Dom Go.Proofs.Ytjfagpmklifjlaa.Dms Go.Proofs.Ytjfagpmklifjlaa.Til Go.Proofs.Ytjfagpmklifjlaa.Grd Go.Proofs.Ytjfagpmklifjlaa.Dss Go.Joins
open Go.Proofs.Ytjfagpmklifjlaa.Cnt (gR tiles gR_in gR_out)
open Go.Proofs.Ytjfagpmklifjlaa.Reg hiding RC rc_start

theorem ssInfo : (Try.prog.info? 28).map (fun i => (i.zero, i.size, i.bytes)) = some (some (.slice none 0 0), 1, 24) := by kernel_rfl
def Hd (W : World) (g c : Nat) (M : List Dm) : Prop := W.ownsRow 0 41 3 (.slice (some ⟨g, 0, none⟩) M.length c) M.length (rowM M)
theorem Hd.on {W W' : World} {g c B : Nat} {M : List Dm} (h : Hd W g c M) (hb : Below B W W') (hB : W.heap.size ≤ B) : Hd W' g c M := Reg.own_below h hb hB
theorem Hd.at {w W : World} {g c : Nat} {M : List Dm} (h : Hd w g c M) (hb : Below w.heap.size w W) : Hd W g c M := Reg.own_below h hb (Nat.le_refl _)

theorem sj {a b : Nat} (h : some a = some b) : a = b := by injection h
theorem rowM_one (L : List Dm) : ∀ v ∈ rowM L, v.oneCell' = true := by
  intro v hv
  unfold rowM at hv
  rw [List.mem_flatMap] at hv
  obtain ⟨d, _, hd⟩ := hv
  simp only [List.mem_cons, List.not_mem_nil, or_false] at hd
  rcases hd with rfl | rfl | rfl <;> rfl
theorem outs_one (h : Nat) (S : List (Option Addr × Nat)) : ∀ u ∈ outs h S, u.oneCell' = true := fun u hu => by
  unfold outs at hu
  obtain ⟨s, _, rfl⟩ := List.mem_map.1 hu
  rfl
theorem row_ne_box {W : World} {base e size n c g p : Nat} {xs : List Value} {cs : Array Value} {T : TypeId} (ho : W.ownsRow base e size (.slice (some ⟨g, 0, none⟩) n c) n xs) (h : W.heap[p]? = some (.cells cs T)) (hne : e ≠ T) : p ≠ g := by
  rintro rfl
  rcases ho.2 with ⟨q, _⟩ | ⟨g', c', cur, q, _, hg, _⟩
  · cases q
  · injection q with q1
    injection q1 with q1
    injection q1 with q1
    subst q1
    rw [hg] at h
    injection h with h
    injection h with _ h
    exact hne h
set_option maxHeartbeats 4000000 in
theorem sList (xs : List Int) (n : Nat) (hx : xs.length = n) (ho : okR xs) (A : Option Addr) (cap B h : Nat) (hh : h = (cellsR xs).length / 2) :
    ∀ (f : Nat) (w : World), RowB w B A xs → B ≤ w.heap.size → ∀ (M : List Dm) (k : Nat), Beg xs k M → k ≤ 64 → (∀ i, i < k → gM xs M i = false) → (unc M (cellsR xs)).length < f → ∀ (g cM : Nat), Hd w g cM M → M.length ≤ 32 → ∀ (most : Nat), 1 ≤ most → most ≤ 300 →
    Calls Try.prog 44 #[.agg #[.slice A n cap], .slice (some ⟨g, 0, none⟩) M.length cM, .int .i64 (most : Int)] w (SSPost ((cont xs M).take most) h w) := by
  intro f
  induction f with
  | zero => intro w _ _ M k _ _ _ hf; omega
  | succ f ih =>
  intro w hr hB M k hbg hk64 hk0 hf g cM hd hM most hm1 hm2
  have hn : (n : Int) ≤ 9223372036854775807 := by have := ho.1; omega
  have HHh := Lib.hid hh
  obtain ⟨i0, hi, hz0, hz1, hz2⟩ := info_parts domInfo
  obtain ⟨j0, hj, hy0, hy1, hy2⟩ := info_parts ssInfo
  have HMk := Lib.hid (fun (W : World) => World.ownsRow_made (e := 28) (size := 1) W #[] 0 (Nat.le_refl _) (by unfold maxLen; omega) rfl)
  have HUn := Lib.hid (fun W (hb : Below w.heap.size w W) => sUncoveredOf W A n cap B xs hx hn (hr.below hb hB) (by have := hb.size; omega) (some ⟨g, 0, none⟩) M.length cM W.heap.size M rfl (by omega) (rowM_own (hd.at hb)) (Nat.le_refl _))
  have HHs := Lib.hid (fun W (hb : Below w.heap.size w W) x y => sHasCell W A n cap B xs hx hn (hr.below hb hB) (by have := hb.size; omega) x y)
  have HDa := Lib.hid (fun W (hb : Below w.heap.size w W) x y => sDominoAt W (some ⟨g, 0, none⟩) M.length cM W.heap.size M rfl (by omega) (rowM_own (hd.at hb)) (Nat.le_refl _) x y)
  have HS := Lib.hid (fun (o : Obj) => below_alloc1 w o)
  have HHd := Lib.hid hd
  have HUC := Lib.hid (fun hk => unc_first ho (M := M) (j := 0) hk)
  have HUN := Lib.hid (fun hk => cont_done ho (M := M) hk)
  have HHf := Lib.hid (cont_half ho hbg hk64 hk0)
  have hC64 : (unc M (cellsR xs)).length ≤ 64 := Nat.le_trans (unc_length M (cellsR xs)) (cellsR_length xs)
  have HBg := Lib.hid hbg
  have HK0 := Lib.hid hk0
  clear hbg hh
  generalize hU : unc M (cellsR xs) = C at HUn HUC HUN hf hC64
  go_enter Try.func44, Try.ntmps44
  go_wp2_with fail
  have hbw0 := HS.out (.cells #[.slice A n cap] 26)
  have hbx := Rg.new w (.slice A n cap)
  have hown0 := HMk.out (w.alloc (.cells #[.slice A n cap] 26))
  have hz0w : (w.alloc (.cells #[.slice A n cap] 26)).heap.size = w.heap.size + 1 := by simp
  generalize w.alloc (.cells #[.slice A n cap] 26) = W0 at hbw0 hbx hown0 hz0w ⊢
  have hbw := hbw0.alloc hbw0.size (.cells #[] 28)
  have hbx1 := hbx.on (below_alloc1 W0 (.cells #[] 28))
  have hz1w : (W0.alloc (.cells #[] 28)).heap.size = w.heap.size + 2 := by simp [hz0w]
  rw [hz0w] at hown0
  generalize W0.alloc (.cells #[] 28) = W1 at hbw hown0 hz1w hbx1 ⊢
  refine (HUn.out _ hbw).mono ?_
  rintro e w1 ⟨A1, cap1, rfl, hown1, hb1⟩
  have hbw1 := hbw.trans (hb1.mono hbw.size)
  obtain ⟨b, off, hA1, hR1⟩ := rowC_own hown1
  have R1 : RdC w1 b off C := ⟨fun h0 => (hA1 h0).2, hR1⟩
  have hb2 : 0 < C.length → w.heap.size + 2 ≤ b := fun h0 => by
    obtain ⟨g, c, hv, hg, _⟩ := hown1.form h0
    have e := (hA1 h0).1
    rw [e] at hv
    injection hv with hv
    injection hv with hv
    injection hv with hv
    omega
  have HA1 := Lib.hid (fun h0 => (hA1 h0).1)
  have T0 : Lst w (.slice A n cap) b off C h [] (w.heap.size + 1) 0 w1 := ⟨hbw1, hbx1.on hb1, R1, fun h0 => ⟨hb2 h0, by have := hb2 h0; omega⟩, [], Reg.own_base (Reg.own_below hown0 hb1 (Nat.le_refl _)) (by omega), Ins.nil _ _ _ _⟩
  clear HUn HS hb1 hA1 hR1 hbw0 hbw hz0w hown0 hown1 R1 hb2 hbx hbx1 hbw1
  by_cases hC : C.length = 0
  · have hC2 : ((C.length : Int) == 0) = true := by simp [hC]
    have hcont := HUN.out hC
    have HMh := Lib.hid (show M.length = h by rw [HHh.out]; exact HHf.out M (by rw [hcont]; simp))
    have HTk := Lib.hid (show (cont xs M).take most = [M] by rw [hcont, List.take_of_length_le (by simpa using hm1)])
    have hHd := HHd.out.at T0.bel
    have HAl := Lib.hid (below_alloc1 w1 (.cells #[] 41))
    have hza1 : (w1.alloc (.cells #[] 41)).heap.size = w1.heap.size + 1 := by simp
    have HMd := Lib.hid (World.ownsRow_made (e := 41) (size := 3) w1 #[] 0 (Nat.le_refl _) (by unfold maxLen; omega) rfl)
    have HHd1 := Lib.hid (hHd.at (below_alloc1 w1 (.cells #[] 41)))
    have HT0 := Lib.hid T0
    have hw := T0.bel.size
    have hw2 := T0.box.lt
    clear hHd T0 HUN HUC HHf HHs HDa ih hk0 hcont
    go_wp2_with (first
      | (at_builtin
         refine append_any _ rfl _ _ 28 rfl w1.heap.size 41 i0 (.agg #[.int .i64 0, .int .i64 0, .bool false]) 3 24 Try.underlying28 hi hz0 hz1 hz2 rfl (by decide) w1.heap.size 0 0 [] (by rfl) HMd.out ⟨g, 0, none⟩ M.length cM (rowM M) (by rfl) (rowM_length M) (fun j u hu => HHd1.out.cells (g := g) rfl j u hu) (rowM_one _) (by unfold maxLen; omega) (by omega) (by omega) ?_
         intro g6 c6 w6 hown6 hgr6 hat6 hlt6
         have hb6 : Below w1.heap.size w1 w6 := HAl.out.grown hgr6 (by omega) (fun q hq => by have hq2 : w1.heap.size = q := by { injection hq }; omega)
         rw [Nat.zero_add, List.nil_append] at hown6
         have hr6 : RowIn w6 w1.heap.size w6.heap.size 41 3 (.slice (some ⟨g6, 0, none⟩) M.length c6) M.length (rowM M) := rowIn_new hown6
         have hz7 : (w6.alloc (.cells #[.slice (some ⟨g6, 0, none⟩) M.length c6] 28)).heap.size = w6.heap.size + 1 := by simp
         have HT7 := Lib.hid ((HT0.out.on hb6).on (below_alloc1 w6 (.cells #[.slice (some ⟨g6, 0, none⟩) M.length c6] 28)))
         have HR7 := Lib.hid (hr6.on (below_alloc1 w6 (.cells #[.slice (some ⟨g6, 0, none⟩) M.length c6] 28)))
         have HNw := Lib.hid (World.news_of_block (cs := #[Value.slice (some ⟨g6, 0, none⟩) M.length c6]) (t := 28) (fr := (0, 0)) (heap_alloc_new w6 (.cells #[.slice (some ⟨g6, 0, none⟩) M.length c6] 28)))
         have hs6 := hb6.size
         obtain ⟨S, hS1, hS2⟩ := HT7.out.out
         have hS0 : S = [] := List.eq_nil_of_length_eq_zero (by have := hS2.1; simpa using this)
         subst hS0
         have HS1 := Lib.hid hS1
         have hsz := HT7.out.bel.size
         clear hown6 hgr6 hat6 hb6 hr6 hS1 hS2 HT0 HHd1 HMd HAl)
      | (at_builtin
         refine append_any _ rfl _ _ 30 rfl (w.heap.size + 1) 28 j0 (.slice none 0 0) 1 24 Try.underlying30 hj hy0 hy1 hy2 rfl (by decide) (w.heap.size + 1) 0 0 [] (by rfl) HS1.out ⟨w6.heap.size, 0, none⟩ 1 1 [.slice (some ⟨g6, 0, none⟩) M.length c6] (by rfl) rfl HNw.out (by simp [Value.oneCell']) (by unfold maxLen; omega) (by omega) (by omega) ?_
         intro g8 c8 w8 hown8 hgr8 hat8 hlt8))
    have T8 := HT7.out.app (L' := [M]) (S' := [(some ⟨g6, 0, none⟩, c6)]) [] HS1.out (Ins.one (RowIn.wide (by rw [← HMh.out]; exact HR7.out) (by omega) (by omega))) rfl hgr8 hat8 (by rw [← HMh.out]; exact hown8)
    go_ret
    rw [HTk.out]
    exact T8.post
  · have hC2 : ((C.length : Int) == 0) = false := by rw [beq_eq_false_iff_ne]; omega
    have hC0 : 0 < C.length := by omega
    obtain ⟨c, hc64, hcg, hcf, hcc⟩ := HUC.out hC0
    have HC0 := Lib.hid (show C[0]? = some (((c % 8 : Nat) : Int), ((c / 8 : Nat) : Int)) by rw [List.getElem?_eq_getElem hC0, hcc])
    have HCt := Lib.hid (show cont xs M = pre xs M c 2 by rw [cont_step hc64 hcg hcf]; simp [pre])
    have HCan := Lib.hid (fun b => can_is ho (M := M) hc64 b)
    have HMo := Lib.hid (fun (t : Nat) (L : List (List Dm)) (ht : t < 2) hL hlt => pre_more (xs := xs) (M := M) (c := c) (most := most) (L := L) ht hL hlt)
    have HSt := Lib.hid (fun (t : Nat) (L : List (List Dm)) (ht : t ≤ 2) hL hlt => pre_stop (xs := xs) (M := M) (c := c) (most := most) (L := L) ht hL hlt)
    have HBx := Lib.hid (show ∀ bb : Bool, okM (dmN c bb) = domB ((c % 8 : Nat) : Int) ((c / 8 : Nat) : Int) bb from fun _ => rfl)
    have HCx := Lib.hid (show ∀ bb : Bool, sx (dmN c bb).1 bb = sx ((c % 8 : Nat) : Int) bb ∧ sy (dmN c bb).2.1 bb = sy ((c / 8 : Nat) : Int) bb from fun _ => ⟨rfl, rfl⟩)
    obtain ⟨x, hx0⟩ : ∃ x : Int, x = ((c % 8 : Nat) : Int) := ⟨_, rfl⟩
    obtain ⟨y, hy00⟩ : ∃ y : Int, y = ((c / 8 : Nat) : Int) := ⟨_, rfl⟩
    rw [← hx0, ← hy00] at HC0 HBx HCx
    have HXY := Lib.hid (show ∀ bb, dmN c bb = (x, y, bb) from fun bb => by rw [hx0, hy00]; rfl)
    have HIH := Lib.hid (show ∀ (bb : Bool) (r : Nat) (W : World) (g' c' : Nat), canB xs M c bb = true → 1 ≤ r → r ≤ 300 → RowB W B A xs → B ≤ W.heap.size → Hd W g' c' (M ++ [dmN c bb]) → Calls Try.prog 44 #[.agg #[.slice A n cap], .slice (some ⟨g', 0, none⟩) (M.length + 1) c', .int .i64 (r : Int)] W (SSPost ((one xs M c bb).take r) h W) from fun bb r W g' c' hc r1 r2 a1 a2 a3 => by
      have hkc : k ≤ c := by
        by_cases q : k ≤ c
        · exact q
        · have := HK0.out c (by omega); rw [hcg] at this; cases this
      have hB1 := (HBg.out.mono hkc).step ho hcg hc
      obtain ⟨l1, l2, l3⟩ := can_lt hc
      have hst : stepB xs M (dmN c bb) = true := by
        have := hB1.1 M.length (by simp)
        rwa [stp_last] at this
      have hus := unc_step hst
      rw [hU] at hus
      have hpl := part_length (part_yes (okRB_of ho) hB1.1)
      have hz : ∀ i, i < c + 1 → gM xs (M ++ [dmN c bb]) i = false := fun i hi => by
        rw [gM_snoc l1 l2, Bool.eq_false_iff, Ne, Cnt.rem_iff]
        rintro ⟨b1, b2, b3⟩
        rw [hcf i (by omega)] at b1; cases b1
      have hone : one xs M c bb = cont xs (M ++ [dmN c bb]) := by unfold one; rw [if_pos hc]
      have := ih W a1 a2 (M ++ [dmN c bb]) (c + 1) hB1 (by omega) hz (by omega) g' c' a3 (by omega) r r1 r2
      rw [List.length_append, List.length_singleton] at this
      rw [hone]; exact this)
    clear hx0 hy00 HUC HUN hcc ih
    go_wp2_with fail
    go_loopw [7, 9] (fun v i wr => ∃ (t : Nat) (L : List (List Dm)) (go co : Nat), t ≤ 2 ∧ i = .int .i64 t ∧ v = .slice (some ⟨go, 0, none⟩) L.length co ∧ Lst w (.slice A n cap) b off C h L go co wr ∧ Hid (L = (pre xs M c t).take most)) (fun _ i _ => 2 - (intOf i).toNat)
    case atStart => exact ⟨0, [], w.heap.size + 1, 0, Nat.zero_le _, rfl, rfl, T0, Lib.hid (by simp [pre])⟩
    case round =>
      clear T0
      obtain ⟨t, L, go, co, ht, rfl, rfl, T1, hL⟩ := hrel
      by_cases hgo : t < 2 ∧ L.length < most
      · obtain ⟨ht2, hlm⟩ := hgo
        have HMr := Lib.hid (HMo.out t L ht2 hL.out hlm)
        obtain rfl := HA1.out hC0
        obtain ⟨c0, c1⟩ := T1.cs.2 0 _ HC0.out
        simp only [Nat.zero_mul, Nat.add_zero] at c0 c1
        have HD3 := Lib.hid (show ((t : Int) == 1) = decide (t = 1) by rw [Bool.eq_iff_iff]; simp; omega)
        obtain ⟨bb, hbb⟩ : ∃ bb, bb = decide (t = 1) := ⟨_, rfl⟩
        rw [← hbb] at HD3 HMr
        clear hbb
        have hbl := T1.cs.1 hC0
        go_upto_region 8 with fail
        go_region_held3 (fun w' => w'.cell? ⟨b, off, none⟩ = some (.int .i64 x) ∧ w'.cell? ⟨b, off + 1, none⟩ = some (.int .i64 y))
          (first | go_keep)
          (first | fail)
        rename_i hHeld
        have T2 := (T1.on (below_alloc1 wr (.cells #[.int .i64 x, .int .i64 y, .bool ((t : Int) == 1)] 41))).drew
        have Z2 : At3 41 (wr.alloc (.cells #[.int .i64 x, .int .i64 y, .bool ((t : Int) == 1)] 41)).drew wr.heap.size x y ((t : Int) == 1) := At3.new 41 wr x y ((t : Int) == 1)
        rw [HD3.out] at T2 Z2 ⊢
        clear hHeld c0 c1 T1 HD3
        generalize (wr.alloc (.cells #[.int .i64 x, .int .i64 y, .bool bb] 41)).drew = W2 at T2 Z2 ⊢
        generalize wr.heap.size = p at Z2 ⊢
        have HK := Lib.hid (fun W => sSecond x y bb W)
        have HO := Lib.hid (fun W => sDominoOk x y bb W)
        have HCb := Lib.hid (HCan.out bb)
        rw [HBx.out bb, (HCx.out bb).1, (HCx.out bb).2] at HCb
        generalize domB x y bb = pp at HO HCb
        generalize sx x bb = u at HK HCb
        generalize sy y bb = v at HK HCb
        have HHu := Lib.hid (fun W hb => HHs.out W hb u v)
        have HDu := Lib.hid (fun W hb => HDa.out W hb u v)
        have HQu := Lib.hid (atI_neg (L := M) (x := u) (y := v))
        generalize atI M u v = qu at HDu HQu
        generalize hasB xs u v = ss at HHu HCb
        generalize anyM M u v = an at HQu HCb
        have d0 := Z2.c0
        have d1 := Z2.c1
        have d2 := Z2.c2
        go_wp2_with fail
        refine (HK.out _).mono ?_
        rintro e w5 ⟨rfl, hb5⟩
        have T6 := T2.on hb5
        have Z6 := Z2.on hb5
        clear T2 Z2 d0 d1 d2 hb5 HK
        go_upto_region 10 with fail
        have K7 := At2.new w5 u v
        have T7 := T6.on (below_alloc1 w5 (.cells #[.int .i64 u, .int .i64 v] 38))
        have Z7 := Z6.on (below_alloc1 w5 (.cells #[.int .i64 u, .int .i64 v] 38))
        clear T6 Z6
        generalize w5.alloc (.cells #[.int .i64 u, .int .i64 v] 38) = W7 at T7 Z7 K7 ⊢
        generalize w5.heap.size = p7 at K7 ⊢
        have d0 := Z7.c0
        have d1 := Z7.c1
        have d2 := Z7.c2
        go_wp2_with fail
        refine (HO.out _).mono ?_
        rintro e w8 ⟨rfl, hb8⟩
        have T8 := T7.on hb8
        have Z8 := Z7.on hb8
        have K8 := K7.on hb8
        clear T7 Z7 K7 d0 d1 d2 hb8 HO
        have HSkip := Lib.hid (fun (hno : canB xs M c bb = false) => (show L = (pre xs M c (t + 1)).take most by
          rw [HMr.out]; unfold one; rw [hno]; simp))
        cases pp with
        | false =>
          have hrel2 := Lib.hid (HSkip.out (by rw [HCb.out]; rfl))
          go_wp2
          go_roundw
          case rel => exact ⟨t + 1, L, go, co, by omega, by go_num, rfl, T8, hrel2⟩
          case measure => (simp [intOf] <;> omega)
        | true =>
          have e0 := K8.c0
          have e1 := K8.c1
          have e2 := T8.box.c0
          go_wp2_with fail
          refine (HHu.out _ T8.bel).mono ?_
          rintro e w9 ⟨rfl, hb9⟩
          have T9 := T8.on hb9
          have Z9 := Z8.on hb9
          have K9 := K8.on hb9
          clear T8 Z8 K8 e0 e1 e2 hb9 HHu
          cases ss with
          | false =>
            have hrel2 := Lib.hid (HSkip.out (by rw [HCb.out]; rfl))
            go_wp2
            go_roundw
            case rel => exact ⟨t + 1, L, go, co, by omega, by go_num, rfl, T9, hrel2⟩
            case measure => (simp [intOf] <;> omega)
          | true =>
            have e0 := K9.c0
            have e1 := K9.c1
            go_wp2_with fail
            refine (HDu.out _ T9.bel).mono ?_
            rintro e W10 ⟨rfl, hb10⟩
            have T10 := T9.on hb10
            have Z10 := Z9.on hb10
            clear T9 Z9 K9 e0 e1 hb10 HDu
            by_cases hq : 0 ≤ qu
            · have hq2 : ¬ qu < 0 := by omega
              have hrel2 := Lib.hid (HSkip.out (by
                rw [HCb.out]
                have h1 := HQu.out
                rw [decide_eq_false hq2] at h1
                rw [← h1]; rfl))
              clear HQu
              go_wp2
              go_roundw
              case rel => exact ⟨t + 1, L, go, co, by omega, by go_num, rfl, T10, hrel2⟩
              case measure => (simp [intOf] <;> omega)
            · have hq2 : qu < 0 := by omega
              have HYes := Lib.hid (show canB xs M c bb = true by
                rw [HCb.out]
                have h1 := HQu.out
                rw [decide_eq_true hq2] at h1
                rw [← h1]; rfl)
              clear HQu HSkip
              have HT10 := Lib.hid T10.drew
              have hz10 := T10.box.lt
              have HMd := Lib.hid (show ((W10.drew).alloc (.cells #[] 41)).ownsRow W10.heap.size 41 3 (.slice (some ⟨W10.heap.size, 0, none⟩) 0 0) 0 [] from World.ownsRow_made (e := 41) (size := 3) W10.drew #[] 0 (Nat.le_refl _) (by unfold maxLen; omega) rfl)
              have HHd1 := Lib.hid ((HHd.out.at T10.drew.bel).at (below_alloc1 W10.drew (.cells #[] 41)))
              have hza1 : ((W10.drew).alloc (.cells #[] 41)).heap.size = W10.heap.size + 1 := by show (W10.drew.alloc _).heap.size = W10.drew.heap.size + 1; simp
              have e0 := T10.box.c0
              have d0 := Z10.c0
              have d1 := Z10.c1
              have d2 := Z10.c2
              go_upto_region 11 with fail
              have HIr := Lib.hid (fun W g' c' a1 a2 a3 => HIH.out bb (most - L.length) W g' c' HYes.out (by omega) (by omega) a1 a2 a3)
              have hsub : ((most - L.length : Nat) : Int) = (most : Int) - (L.length : Int) := by omega
              rw [hsub] at HIr
              generalize hR : (one xs M c bb).take (most - L.length) = R at HIr HMr
              have hRl : R.length ≤ 300 := by rw [← hR, List.length_take]; omega
              have HHr := Lib.hid hr
              clear hR hsub HIH
              have hLl : L.length ≤ 300 := by omega
              have HWr := Lib.hid (show IntKind.i64.wrap ((most : Int) - (L.length : Int)) = (most : Int) - (L.length : Int) by rw [IntKind.wrap_i64]; omega)
              have HB0 := Lib.hid (Below.refl W10.drew.heap.size W10.drew)
              have HSc := Lib.hid (fun (W : World) (hb : Below W10.drew.heap.size W10.drew W) => show W.cell? ⟨w.heap.size, 0, none⟩ = some (.slice A n cap) ∧ W.cell? ⟨p, 0, none⟩ = some (.int .i64 x) ∧ W.cell? ⟨p, 1, none⟩ = some (.int .i64 y) ∧ W.cell? ⟨p, 2, none⟩ = some (.bool bb) from
                ⟨(HT10.out.on hb).box.c0, (At3.on (W := W10.drew) Z10 hb).c0, (At3.on (W := W10.drew) Z10 hb).c1, (At3.on (W := W10.drew) Z10 hb).c2⟩)
              have HHs := Lib.hid (fun (W : World) (hb : Below W10.drew.heap.size W10.drew W) => HHd.out.at (HT10.out.bel.trans (hb.mono HT10.out.bel.size)))
              clear HMd HHd1 hza1 e0 d0 d1 d2
--R11--
              refine wp_region_noPanic ?_
              refine wp_region_held_drew (S := (fun w' => w'.cell? ⟨w.heap.size, 0, none⟩ = some (.slice A n cap) ∧ w'.cell? ⟨p, 0, none⟩ = some (.int .i64 x) ∧ w'.cell? ⟨p, 1, none⟩ = some (.int .i64 y) ∧ w'.cell? ⟨p, 2, none⟩ = some (.bool bb))) (by kernel_rfl) (HSc.out _ HB0.out) (fun hHeld => ?_)
              refine wpAnyH_take (i := 0) (v := ?_) rfl (by kernel_rfl) (by kernel_rfl) (by kernel_rfl) (fun _ _ _ h => h) (Or.inl ⟨by rfl, ?_⟩) (by assumption) ?_
              rotate_left
              · (intro w' hS; (try dsimp only at hS); go_simp; try with_reducible rfl)
              try simp only [Act.put, List.getElem_toArray, List.getElem_cons_succ, List.getElem_cons_zero, List.setIfInBounds_toArray, List.set_cons_zero, List.set_cons_succ]
              refine wpAnyH_take (i := 1) (v := ?_) rfl (by kernel_rfl) (by kernel_rfl) (by kernel_rfl) (fun _ _ _ h => h) (Or.inl ⟨by rfl, ?_⟩) (by assumption) ?_
              rotate_left
              · (intro w' hS; (try dsimp only at hS); go_simp; try with_reducible rfl)
              try simp only [Act.put, List.getElem_toArray, List.getElem_cons_succ, List.getElem_cons_zero, List.setIfInBounds_toArray, List.set_cons_zero, List.set_cons_succ]
              refine wpAnyH_take (i := 3) (v := ?_) rfl (by kernel_rfl) (by kernel_rfl) (by kernel_rfl) (fun _ _ _ h => h) (Or.inl ⟨by rfl, ?_⟩) (by assumption) ?_
              rotate_left
              · (intro w' hS; (try dsimp only at hS); go_simp; try with_reducible rfl)
              try simp only [Act.put, List.getElem_toArray, List.getElem_cons_succ, List.getElem_cons_zero, List.setIfInBounds_toArray, List.set_cons_zero, List.set_cons_succ]
              refine wpAnyH_take (i := 5) (v := ?_) rfl (by kernel_rfl) (by kernel_rfl) (by kernel_rfl) (fun _ _ _ h => h) (Or.inl ⟨by rfl, ?_⟩) (by assumption) ?_
              rotate_left
              · (intro w' hS; (try dsimp only at hS); go_simp; try with_reducible rfl)
              try simp only [Act.put, List.getElem_toArray, List.getElem_cons_succ, List.getElem_cons_zero, List.setIfInBounds_toArray, List.set_cons_zero, List.set_cons_succ]
              refine wpAnyH_take (i := 8) (v := ?_) rfl (by kernel_rfl) (by kernel_rfl) (by kernel_rfl) (fun _ _ _ h => h) (Or.inl ⟨by rfl, ?_⟩) (by assumption) ?_
              rotate_left
              · (intro w' hS; (try dsimp only at hS); go_simp; try with_reducible rfl)
              try simp only [Act.put, List.getElem_toArray, List.getElem_cons_succ, List.getElem_cons_zero, List.setIfInBounds_toArray, List.set_cons_zero, List.set_cons_succ]
              refine wpAnyH_take (i := 9) (v := ?_) rfl (by kernel_rfl) (by kernel_rfl) (by kernel_rfl) (fun _ _ _ h => h) (Or.inl ⟨by rfl, ?_⟩) (by assumption) ?_
              rotate_left
              · (intro w' hS; (try dsimp only at hS); go_simp; try with_reducible rfl)
              try simp only [Act.put, List.getElem_toArray, List.getElem_cons_succ, List.getElem_cons_zero, List.setIfInBounds_toArray, List.set_cons_zero, List.set_cons_succ]
              refine wpAnyH_take (i := 10) (v := ?_) rfl (by kernel_rfl) (by kernel_rfl) (by kernel_rfl) (fun _ _ _ h => h) (Or.inl ⟨by rfl, ?_⟩) (by assumption) ?_
              rotate_left
              · (intro w' hS; (try dsimp only at hS); go_simp; try with_reducible rfl)
              try simp only [Act.put, List.getElem_toArray, List.getElem_cons_succ, List.getElem_cons_zero, List.setIfInBounds_toArray, List.set_cons_zero, List.set_cons_succ]
              refine wpAnyH_take (i := 11) (v := ?_) rfl (by kernel_rfl) (by kernel_rfl) (by kernel_rfl) (fun _ _ _ h => h) (Or.inl ⟨by rfl, ?_⟩) (by assumption) ?_
              rotate_left
              · (intro w' hS; (try dsimp only at hS); go_simp; try with_reducible rfl)
              try simp only [Act.put, List.getElem_toArray, List.getElem_cons_succ, List.getElem_cons_zero, List.setIfInBounds_toArray, List.set_cons_zero, List.set_cons_succ]
              refine wpAnyH_ready (rs := [2, 6]) (by kernel_rfl) (by simp) ?_
              refine AllReadyH.cons rfl (fun K hK => ?_) (AllReadyH.cons rfl (fun K hK => ?_) (AllReadyH.nil))
              · have rE1 := World.ownsRow_made (e := 41) (size := 3) (W10.drew) #[] 0 (HB0.out.size) (by unfold maxLen; omega) rfl
                have hb1 := HB0.out.alloc HB0.out.size (.cells #[] 41)
                go_simp
                refine hK.out _ _ (HSc.out _ hb1) (fun hHeld => ?_)
                clear hK K
                try simp only [Act.put, List.getElem_toArray, List.getElem_cons_succ, List.getElem_cons_zero, List.setIfInBounds_toArray, List.set_cons_zero, List.set_cons_succ]
                refine wpAnyH_ready (rs := [4, 6]) (by kernel_rfl) (by simp) ?_
                refine AllReadyH.cons rfl (fun K hK => ?_) (AllReadyH.cons rfl (fun K hK => ?_) (AllReadyH.nil))
                · have hd2 := HHs.out _ hb1
                  refine step_append_any _ (by rfl) _ _ 28 (by rfl) W10.heap.size 41 i0 (.agg #[.int .i64 0, .int .i64 0, .bool false]) 3 24 Try.underlying28 hi hz0 hz1 hz2 rfl (by decide) _ 0 0 [] (by rfl) rE1 ⟨g, 0, none⟩ M.length cM (rowM M) (by rfl) (rowM_length M) (fun j u hu => hd2.cells (g := g) rfl j u hu) (rowM_one _) (by unfold maxLen; omega) (by omega) hb1.size ?_
                  intro g11 c11 w11 hown11 hgr11 hat11 hlt11
                  have hb2 : Below W10.drew.heap.size W10.drew w11 := hb1.grown hgr11 hb1.size (fun q hq => (sj hq) ▸ (rE1.lt _ rfl).1)
                  rw [Nat.zero_add, List.nil_append] at hown11
                  refine hK.out _ _ (HSc.out _ hb2) (fun hHeld => ?_)
                  clear hK K
                  try simp only [Nat.zero_add, Act.put, List.getElem_toArray, List.getElem_cons_succ, List.getElem_cons_zero, List.setIfInBounds_toArray, List.set_cons_zero, List.set_cons_succ]
                  refine wpAnyH_ready (rs := [6]) (by kernel_rfl) (by simp) ?_
                  refine AllReadyH.cons rfl (fun K hK => ?_) (AllReadyH.nil)
                  · have bD3 := heap_alloc_new (w11) (.cells #[.int .i64 x, .int .i64 y, .bool bb] 41)
                    have hb3 := hb2.alloc hb2.size (.cells #[.int .i64 x, .int .i64 y, .bool bb] 41)
                    have rM3 := hown11.alloc (.cells #[.int .i64 x, .int .i64 y, .bool bb] 41)
                    go_simp
                    refine hK.out _ _ (HSc.out _ hb3) (fun hHeld => ?_)
                    clear hK K
                    try simp only [Act.put, List.getElem_toArray, List.getElem_cons_succ, List.getElem_cons_zero, List.setIfInBounds_toArray, List.set_cons_zero, List.set_cons_succ]
                    refine wpAnyH_ready (rs := [7]) (by kernel_rfl) (by simp) ?_
                    refine AllReadyH.cons rfl (fun K hK => ?_) (AllReadyH.nil)
                    · refine step_append_any _ (by rfl) _ _ 28 (by rfl) W10.heap.size 41 i0 (.agg #[.int .i64 0, .int .i64 0, .bool false]) 3 24 Try.underlying28 hi hz0 hz1 hz2 rfl (by decide) g11 M.length c11 (rowM M) (by rfl) rM3 ⟨_, 0, none⟩ 1 1 [.int .i64 x, .int .i64 y, .bool bb] (by rfl) rfl (World.news_of_block (cs := #[.int .i64 x, .int .i64 y, .bool bb]) (t := 41) (fr := (0, 0)) bD3) (by simp [Value.oneCell']) (by unfold maxLen; omega) (by omega) hb3.size ?_
                      intro g12 c12 w12 hown12 hgr12 hat12 hlt12
                      have hb4 : Below W10.drew.heap.size W10.drew w12 := hb3.grown hgr12 hb3.size (fun q hq => (sj hq) ▸ (rM3.lt _ rfl).1)
                      have HH12 := Lib.hid (show Hd w12 g12 c12 (M ++ [dmN c bb]) by unfold Hd; rw [HXY.out, List.length_append, List.length_singleton, rowM_snoc]; exact Reg.own_base hown12 (Nat.zero_le _))
                      have T12 := HT10.out.on hb4
                      clear hown12 hgr12 hat12 hown11 hgr11 hat11
                      refine hK.out _ _ (HSc.out _ hb4) (fun hHeld => ?_)
                      clear hK K
                      try simp only [Act.put, List.getElem_toArray, List.getElem_cons_succ, List.getElem_cons_zero, List.setIfInBounds_toArray, List.set_cons_zero, List.set_cons_succ]
                      refine wpAnyH_ready (rs := [12]) (by kernel_rfl) (by simp) ?_
                      refine AllReadyH.cons rfl (fun K hK => ?_) (AllReadyH.nil)
                      · go_simp
                        rw [HWr.out]
                        refine (HIr.out _ _ _ (HHr.out.below T12.bel hB) (by have := T12.bel.size; omega) HH12.out).mono ?_
                        rintro e w13 ⟨g13, c13, rfl, hss13, hb13⟩
                        have T13 := T12.on hb13
                        obtain ⟨S13, q1, q2⟩ := hss13
                        obtain ⟨S, s1, s2⟩ := T12.out
                        have hbx12 := T12.box.lt
                        have HI13 := Lib.hid ((s2.on hb13).app q2 (by omega) (Nat.le_refl _) hb13.size)
                        have HS13 := Lib.hid (Reg.own_below s1 hb13 (Nat.le_refl _))
                        have HQ13 := Lib.hid q1.1
                        have hs13 := T13.box.lt
                        have hb5 := hb4.trans (hb13.mono hb4.size)
                        have Z13 := At3.on (W := W10.drew) Z10 hb5
                        have hpg := row_ne_box HS13.out Z13 (by decide)
                        clear s1 s2 q1 q2
                        go_wp2_with fail
                        refine hK.out _ _ (HSc.out _ hb5) (fun hHeld => ?_)
                        clear hK K
                        try simp only [Act.put, List.getElem_toArray, List.getElem_cons_succ, List.getElem_cons_zero, List.setIfInBounds_toArray, List.set_cons_zero, List.set_cons_succ]
                        refine wpAnyH_ready (rs := [13]) (by kernel_rfl) (by simp) ?_
                        refine AllReadyH.cons rfl (fun K hK => ?_) (AllReadyH.nil)
                        · have a1 : (outs h S13).length = R.length * 1 := HQ13.out.1
                          have a2 : L.length + R.length ≤ maxLen := by unfold maxLen; omega
                          have a3 : (L.length + R.length) * 24 ≤ 140737488355328 := by omega
                          have a4 : w.heap.size + 1 ≤ w13.heap.size := by omega
                          have a5 := outs_one h S13
                          have a6 : ∀ j u, (outs h S13)[j]? = some u → w13.cell? ((⟨g13, 0, none⟩ : Addr).add j) = some u := fun j u hu => HQ13.out.cells (g := g13) rfl j u hu
                          have a7 := HS13.out
                          refine step_append_any _ (by rfl) _ _ 30 (by rfl) (w.heap.size + 1) 28 j0 (.slice none 0 0) 1 24 Try.underlying30 hj hy0 hy1 hy2 rfl (by decide) go L.length co (outs h S) (by rfl) a7 ⟨g13, 0, none⟩ R.length c13 (outs h S13) (by rfl) a1 a6 a5 a2 a3 a4 ?_
                          intro g14 c14 w14 hown14 hgr14 hat14 hlt14
                          have T14 := T13.app S HS13.out HI13.out (by rw [List.length_append]) hgr14 hat14 hown14
                          have Z14 : At3 41 w14 p x y bb := (hgr14.block _ (lt_of_block Z13) (fun q => hpg (sj q))).trans Z13
                          clear hown14 hgr14 hat14
                          refine hK.out _ _ ⟨T14.box.c0, Z14.c0, Z14.c1, Z14.c2⟩ (fun hHeld => ?_)
                          clear hK K
                          try simp only [Act.put, List.getElem_toArray, List.getElem_cons_succ, List.getElem_cons_zero, List.setIfInBounds_toArray, List.set_cons_zero, List.set_cons_succ]
                          refine wpAnyH_take (i := 14) (v := ?_) rfl (by kernel_rfl) (by kernel_rfl) (by kernel_rfl) (fun _ _ _ h => h) (Or.inl ⟨by rfl, ?_⟩) (by assumption) ?_
                          rotate_left
                          · (intro w' hS; (try dsimp only at hS); go_simp; try with_reducible rfl)
                          try simp only [Act.put, List.getElem_toArray, List.getElem_cons_succ, List.getElem_cons_zero, List.setIfInBounds_toArray, List.set_cons_zero, List.set_cons_succ]
                          refine wpAnyH_done (by kernel_rfl) ?_ _
                          refine NoPanic.normal ?_
                          have HR2 := Lib.hid (show L ++ R = (pre xs M c (t + 1)).take most by rw [HMr.out])
                          have HLn := Lib.hid (show L.length + R.length = (L ++ R).length by rw [List.length_append])
                          clear hHeld
                          go_wp2
                          go_roundw
                          case rel => exact ⟨t + 1, L ++ R, g14, c14, by omega, by go_num, by rw [HLn.out], T14, HR2⟩
                          case measure => (simp [intOf] <;> omega)
                · have bD7 := heap_alloc_new (((W10.drew).alloc (.cells #[] 41))) (.cells #[.int .i64 x, .int .i64 y, .bool bb] 41)
                  have hb7 := hb1.alloc hb1.size (.cells #[.int .i64 x, .int .i64 y, .bool bb] 41)
                  have rE7 := rE1.alloc (.cells #[.int .i64 x, .int .i64 y, .bool bb] 41)
                  have hz7 : ((W10.drew).alloc (.cells #[] 41)).heap.size = W10.heap.size + 1 := by show ((W10.drew).alloc _).heap.size = W10.drew.heap.size + 1; simp
                  rw [hz7] at bD7
                  go_simp
                  refine hK.out _ _ (HSc.out _ hb7) (fun hHeld => ?_)
                  clear hK K
                  try simp only [Act.put, List.getElem_toArray, List.getElem_cons_succ, List.getElem_cons_zero, List.setIfInBounds_toArray, List.set_cons_zero, List.set_cons_succ]
                  refine wpAnyH_ready (rs := [4]) (by kernel_rfl) (by simp) ?_
                  refine AllReadyH.cons rfl (fun K hK => ?_) (AllReadyH.nil)
                  · have hd8 := HHs.out _ hb7
                    refine step_append_any _ (by rfl) _ _ 28 (by rfl) W10.heap.size 41 i0 (.agg #[.int .i64 0, .int .i64 0, .bool false]) 3 24 Try.underlying28 hi hz0 hz1 hz2 rfl (by decide) _ 0 0 [] (by rfl) rE7 ⟨g, 0, none⟩ M.length cM (rowM M) (by rfl) (rowM_length M) (fun j u hu => hd8.cells (g := g) rfl j u hu) (rowM_one _) (by unfold maxLen; omega) (by omega) hb7.size ?_
                    intro g11 c11 w11 hown11 hgr11 hat11 hlt11
                    have hb8 : Below W10.drew.heap.size W10.drew w11 := hb7.grown hgr11 hb7.size (fun q hq => (sj hq) ▸ (rE7.lt _ rfl).1)
                    rw [Nat.zero_add, List.nil_append] at hown11
                    have bD8 := (hgr11.block _ (lt_of_block bD7) (fun q => by have q2 := sj q; simp at q2)).trans bD7
                    refine hK.out _ _ (HSc.out _ hb8) (fun hHeld => ?_)
                    clear hK K
                    try simp only [Nat.zero_add, Act.put, List.getElem_toArray, List.getElem_cons_succ, List.getElem_cons_zero, List.setIfInBounds_toArray, List.set_cons_zero, List.set_cons_succ]
                    refine wpAnyH_ready (rs := [7]) (by kernel_rfl) (by simp) ?_
                    refine AllReadyH.cons rfl (fun K hK => ?_) (AllReadyH.nil)
                    · refine step_append_any _ (by rfl) _ _ 28 (by rfl) W10.heap.size 41 i0 (.agg #[.int .i64 0, .int .i64 0, .bool false]) 3 24 Try.underlying28 hi hz0 hz1 hz2 rfl (by decide) g11 M.length c11 (rowM M) (by rfl) hown11 ⟨_, 0, none⟩ 1 1 [.int .i64 x, .int .i64 y, .bool bb] (by rfl) rfl (World.news_of_block (cs := #[.int .i64 x, .int .i64 y, .bool bb]) (t := 41) (fr := (0, 0)) bD8) (by simp [Value.oneCell']) (by unfold maxLen; omega) (by omega) hb8.size ?_
                      intro g12 c12 w12 hown12 hgr12 hat12 hlt12
                      have hb9 : Below W10.drew.heap.size W10.drew w12 := hb8.grown hgr12 hb8.size (fun q hq => (sj hq) ▸ (hown11.lt _ rfl).1)
                      have HH12 := Lib.hid (show Hd w12 g12 c12 (M ++ [dmN c bb]) by unfold Hd; rw [HXY.out, List.length_append, List.length_singleton, rowM_snoc]; exact Reg.own_base hown12 (Nat.zero_le _))
                      have T12 := HT10.out.on hb9
                      clear hown12 hgr12 hat12 hown11 hgr11 hat11
                      refine hK.out _ _ (HSc.out _ hb9) (fun hHeld => ?_)
                      clear hK K
                      try simp only [Act.put, List.getElem_toArray, List.getElem_cons_succ, List.getElem_cons_zero, List.setIfInBounds_toArray, List.set_cons_zero, List.set_cons_succ]
                      refine wpAnyH_ready (rs := [12]) (by kernel_rfl) (by simp) ?_
                      refine AllReadyH.cons rfl (fun K hK => ?_) (AllReadyH.nil)
                      · go_simp
                        rw [HWr.out]
                        refine (HIr.out _ _ _ (HHr.out.below T12.bel hB) (by have := T12.bel.size; omega) HH12.out).mono ?_
                        rintro e w13 ⟨g13, c13, rfl, hss13, hb13⟩
                        have T13 := T12.on hb13
                        obtain ⟨S13, q1, q2⟩ := hss13
                        obtain ⟨S, s1, s2⟩ := T12.out
                        have hbx12 := T12.box.lt
                        have HI13 := Lib.hid ((s2.on hb13).app q2 (by omega) (Nat.le_refl _) hb13.size)
                        have HS13 := Lib.hid (Reg.own_below s1 hb13 (Nat.le_refl _))
                        have HQ13 := Lib.hid q1.1
                        have hs13 := T13.box.lt
                        have hb10 := hb9.trans (hb13.mono hb9.size)
                        have Z13 := At3.on (W := W10.drew) Z10 hb10
                        have hpg := row_ne_box HS13.out Z13 (by decide)
                        clear s1 s2 q1 q2
                        go_wp2_with fail
                        refine hK.out _ _ (HSc.out _ hb10) (fun hHeld => ?_)
                        clear hK K
                        try simp only [Act.put, List.getElem_toArray, List.getElem_cons_succ, List.getElem_cons_zero, List.setIfInBounds_toArray, List.set_cons_zero, List.set_cons_succ]
                        refine wpAnyH_ready (rs := [13]) (by kernel_rfl) (by simp) ?_
                        refine AllReadyH.cons rfl (fun K hK => ?_) (AllReadyH.nil)
                        · have a1 : (outs h S13).length = R.length * 1 := HQ13.out.1
                          have a2 : L.length + R.length ≤ maxLen := by unfold maxLen; omega
                          have a3 : (L.length + R.length) * 24 ≤ 140737488355328 := by omega
                          have a4 : w.heap.size + 1 ≤ w13.heap.size := by omega
                          have a5 := outs_one h S13
                          have a6 : ∀ j u, (outs h S13)[j]? = some u → w13.cell? ((⟨g13, 0, none⟩ : Addr).add j) = some u := fun j u hu => HQ13.out.cells (g := g13) rfl j u hu
                          have a7 := HS13.out
                          refine step_append_any _ (by rfl) _ _ 30 (by rfl) (w.heap.size + 1) 28 j0 (.slice none 0 0) 1 24 Try.underlying30 hj hy0 hy1 hy2 rfl (by decide) go L.length co (outs h S) (by rfl) a7 ⟨g13, 0, none⟩ R.length c13 (outs h S13) (by rfl) a1 a6 a5 a2 a3 a4 ?_
                          intro g14 c14 w14 hown14 hgr14 hat14 hlt14
                          have T14 := T13.app S HS13.out HI13.out (by rw [List.length_append]) hgr14 hat14 hown14
                          have Z14 : At3 41 w14 p x y bb := (hgr14.block _ (lt_of_block Z13) (fun q => hpg (sj q))).trans Z13
                          clear hown14 hgr14 hat14
                          refine hK.out _ _ ⟨T14.box.c0, Z14.c0, Z14.c1, Z14.c2⟩ (fun hHeld => ?_)
                          clear hK K
                          try simp only [Act.put, List.getElem_toArray, List.getElem_cons_succ, List.getElem_cons_zero, List.setIfInBounds_toArray, List.set_cons_zero, List.set_cons_succ]
                          refine wpAnyH_take (i := 14) (v := ?_) rfl (by kernel_rfl) (by kernel_rfl) (by kernel_rfl) (fun _ _ _ h => h) (Or.inl ⟨by rfl, ?_⟩) (by assumption) ?_
                          rotate_left
                          · (intro w' hS; (try dsimp only at hS); go_simp; try with_reducible rfl)
                          try simp only [Act.put, List.getElem_toArray, List.getElem_cons_succ, List.getElem_cons_zero, List.setIfInBounds_toArray, List.set_cons_zero, List.set_cons_succ]
                          refine wpAnyH_done (by kernel_rfl) ?_ _
                          refine NoPanic.normal ?_
                          have HR2 := Lib.hid (show L ++ R = (pre xs M c (t + 1)).take most by rw [HMr.out])
                          have HLn := Lib.hid (show L.length + R.length = (L ++ R).length by rw [List.length_append])
                          clear hHeld
                          go_wp2
                          go_roundw
                          case rel => exact ⟨t + 1, L ++ R, g14, c14, by omega, by go_num, by rw [HLn.out], T14, HR2⟩
                          case measure => (simp [intOf] <;> omega)
              · have bD12 := heap_alloc_new (W10.drew) (.cells #[.int .i64 x, .int .i64 y, .bool bb] 41)
                have hb12 := HB0.out.alloc HB0.out.size (.cells #[.int .i64 x, .int .i64 y, .bool bb] 41)
                go_simp
                refine hK.out _ _ (HSc.out _ hb12) (fun hHeld => ?_)
                clear hK K
                try simp only [Act.put, List.getElem_toArray, List.getElem_cons_succ, List.getElem_cons_zero, List.setIfInBounds_toArray, List.set_cons_zero, List.set_cons_succ]
                refine wpAnyH_ready (rs := [2]) (by kernel_rfl) (by simp) ?_
                refine AllReadyH.cons rfl (fun K hK => ?_) (AllReadyH.nil)
                · have rE13 := World.ownsRow_made (e := 41) (size := 3) (((W10.drew).alloc (.cells #[.int .i64 x, .int .i64 y, .bool bb] 41))) #[] 0 (hb12.size) (by unfold maxLen; omega) rfl
                  have hb13 := hb12.alloc hb12.size (.cells #[] 41)
                  have bD13 := (Below.heap_alloc (((W10.drew).alloc (.cells #[.int .i64 x, .int .i64 y, .bool bb] 41))) (.cells #[] 41) _ (lt_of_block bD12)).trans bD12
                  have hz13 : ((W10.drew).alloc (.cells #[.int .i64 x, .int .i64 y, .bool bb] 41)).heap.size = W10.heap.size + 1 := by show ((W10.drew).alloc _).heap.size = W10.drew.heap.size + 1; simp
                  rw [hz13] at rE13
                  go_simp
                  refine hK.out _ _ (HSc.out _ hb13) (fun hHeld => ?_)
                  clear hK K
                  try simp only [Act.put, List.getElem_toArray, List.getElem_cons_succ, List.getElem_cons_zero, List.setIfInBounds_toArray, List.set_cons_zero, List.set_cons_succ]
                  refine wpAnyH_ready (rs := [4]) (by kernel_rfl) (by simp) ?_
                  refine AllReadyH.cons rfl (fun K hK => ?_) (AllReadyH.nil)
                  · have hd14 := HHs.out _ hb13
                    refine step_append_any _ (by rfl) _ _ 28 (by rfl) W10.heap.size 41 i0 (.agg #[.int .i64 0, .int .i64 0, .bool false]) 3 24 Try.underlying28 hi hz0 hz1 hz2 rfl (by decide) _ 0 0 [] (by rfl) rE13 ⟨g, 0, none⟩ M.length cM (rowM M) (by rfl) (rowM_length M) (fun j u hu => hd14.cells (g := g) rfl j u hu) (rowM_one _) (by unfold maxLen; omega) (by omega) hb13.size ?_
                    intro g11 c11 w11 hown11 hgr11 hat11 hlt11
                    have hb14 : Below W10.drew.heap.size W10.drew w11 := hb13.grown hgr11 hb13.size (fun q hq => (sj hq) ▸ (rE13.lt _ rfl).1)
                    rw [Nat.zero_add, List.nil_append] at hown11
                    have bD14 := (hgr11.block _ (lt_of_block bD13) (fun q => by have q2 := sj q; simp at q2)).trans bD13
                    refine hK.out _ _ (HSc.out _ hb14) (fun hHeld => ?_)
                    clear hK K
                    try simp only [Nat.zero_add, Act.put, List.getElem_toArray, List.getElem_cons_succ, List.getElem_cons_zero, List.setIfInBounds_toArray, List.set_cons_zero, List.set_cons_succ]
                    refine wpAnyH_ready (rs := [7]) (by kernel_rfl) (by simp) ?_
                    refine AllReadyH.cons rfl (fun K hK => ?_) (AllReadyH.nil)
                    · refine step_append_any _ (by rfl) _ _ 28 (by rfl) W10.heap.size 41 i0 (.agg #[.int .i64 0, .int .i64 0, .bool false]) 3 24 Try.underlying28 hi hz0 hz1 hz2 rfl (by decide) g11 M.length c11 (rowM M) (by rfl) hown11 ⟨_, 0, none⟩ 1 1 [.int .i64 x, .int .i64 y, .bool bb] (by rfl) rfl (World.news_of_block (cs := #[.int .i64 x, .int .i64 y, .bool bb]) (t := 41) (fr := (0, 0)) bD14) (by simp [Value.oneCell']) (by unfold maxLen; omega) (by omega) hb14.size ?_
                      intro g12 c12 w12 hown12 hgr12 hat12 hlt12
                      have hb15 : Below W10.drew.heap.size W10.drew w12 := hb14.grown hgr12 hb14.size (fun q hq => (sj hq) ▸ (hown11.lt _ rfl).1)
                      have HH12 := Lib.hid (show Hd w12 g12 c12 (M ++ [dmN c bb]) by unfold Hd; rw [HXY.out, List.length_append, List.length_singleton, rowM_snoc]; exact Reg.own_base hown12 (Nat.zero_le _))
                      have T12 := HT10.out.on hb15
                      clear hown12 hgr12 hat12 hown11 hgr11 hat11
                      refine hK.out _ _ (HSc.out _ hb15) (fun hHeld => ?_)
                      clear hK K
                      try simp only [Act.put, List.getElem_toArray, List.getElem_cons_succ, List.getElem_cons_zero, List.setIfInBounds_toArray, List.set_cons_zero, List.set_cons_succ]
                      refine wpAnyH_ready (rs := [12]) (by kernel_rfl) (by simp) ?_
                      refine AllReadyH.cons rfl (fun K hK => ?_) (AllReadyH.nil)
                      · go_simp
                        rw [HWr.out]
                        refine (HIr.out _ _ _ (HHr.out.below T12.bel hB) (by have := T12.bel.size; omega) HH12.out).mono ?_
                        rintro e w13 ⟨g13, c13, rfl, hss13, hb13⟩
                        have T13 := T12.on hb13
                        obtain ⟨S13, q1, q2⟩ := hss13
                        obtain ⟨S, s1, s2⟩ := T12.out
                        have hbx12 := T12.box.lt
                        have HI13 := Lib.hid ((s2.on hb13).app q2 (by omega) (Nat.le_refl _) hb13.size)
                        have HS13 := Lib.hid (Reg.own_below s1 hb13 (Nat.le_refl _))
                        have HQ13 := Lib.hid q1.1
                        have hs13 := T13.box.lt
                        have hb16 := hb15.trans (hb13.mono hb15.size)
                        have Z13 := At3.on (W := W10.drew) Z10 hb16
                        have hpg := row_ne_box HS13.out Z13 (by decide)
                        clear s1 s2 q1 q2
                        go_wp2_with fail
                        refine hK.out _ _ (HSc.out _ hb16) (fun hHeld => ?_)
                        clear hK K
                        try simp only [Act.put, List.getElem_toArray, List.getElem_cons_succ, List.getElem_cons_zero, List.setIfInBounds_toArray, List.set_cons_zero, List.set_cons_succ]
                        refine wpAnyH_ready (rs := [13]) (by kernel_rfl) (by simp) ?_
                        refine AllReadyH.cons rfl (fun K hK => ?_) (AllReadyH.nil)
                        · have a1 : (outs h S13).length = R.length * 1 := HQ13.out.1
                          have a2 : L.length + R.length ≤ maxLen := by unfold maxLen; omega
                          have a3 : (L.length + R.length) * 24 ≤ 140737488355328 := by omega
                          have a4 : w.heap.size + 1 ≤ w13.heap.size := by omega
                          have a5 := outs_one h S13
                          have a6 : ∀ j u, (outs h S13)[j]? = some u → w13.cell? ((⟨g13, 0, none⟩ : Addr).add j) = some u := fun j u hu => HQ13.out.cells (g := g13) rfl j u hu
                          have a7 := HS13.out
                          refine step_append_any _ (by rfl) _ _ 30 (by rfl) (w.heap.size + 1) 28 j0 (.slice none 0 0) 1 24 Try.underlying30 hj hy0 hy1 hy2 rfl (by decide) go L.length co (outs h S) (by rfl) a7 ⟨g13, 0, none⟩ R.length c13 (outs h S13) (by rfl) a1 a6 a5 a2 a3 a4 ?_
                          intro g14 c14 w14 hown14 hgr14 hat14 hlt14
                          have T14 := T13.app S HS13.out HI13.out (by rw [List.length_append]) hgr14 hat14 hown14
                          have Z14 : At3 41 w14 p x y bb := (hgr14.block _ (lt_of_block Z13) (fun q => hpg (sj q))).trans Z13
                          clear hown14 hgr14 hat14
                          refine hK.out _ _ ⟨T14.box.c0, Z14.c0, Z14.c1, Z14.c2⟩ (fun hHeld => ?_)
                          clear hK K
                          try simp only [Act.put, List.getElem_toArray, List.getElem_cons_succ, List.getElem_cons_zero, List.setIfInBounds_toArray, List.set_cons_zero, List.set_cons_succ]
                          refine wpAnyH_take (i := 14) (v := ?_) rfl (by kernel_rfl) (by kernel_rfl) (by kernel_rfl) (fun _ _ _ h => h) (Or.inl ⟨by rfl, ?_⟩) (by assumption) ?_
                          rotate_left
                          · (intro w' hS; (try dsimp only at hS); go_simp; try with_reducible rfl)
                          try simp only [Act.put, List.getElem_toArray, List.getElem_cons_succ, List.getElem_cons_zero, List.setIfInBounds_toArray, List.set_cons_zero, List.set_cons_succ]
                          refine wpAnyH_done (by kernel_rfl) ?_ _
                          refine NoPanic.normal ?_
                          have HR2 := Lib.hid (show L ++ R = (pre xs M c (t + 1)).take most by rw [HMr.out])
                          have HLn := Lib.hid (show L.length + R.length = (L ++ R).length by rw [List.length_append])
                          clear hHeld
                          go_wp2
                          go_roundw
                          case rel => exact ⟨t + 1, L ++ R, g14, c14, by omega, by go_num, by rw [HLn.out], T14, HR2⟩
                          case measure => (simp [intOf] <;> omega)
--R11 END--
      · have hLc := HSt.out t L ht hL.out (by omega)
        have HLc := Lib.hid (show (cont xs M).take most = L by rw [HCt.out]; exact hLc.symm)
        clear hL hLc
        by_cases ht2 : t < 2
        · have hlm : ¬ L.length < most := fun q => hgo ⟨ht2, q⟩
          go_wp2
          go_ret
          rw [HLc.out]; exact T1.post
        · go_wp2
          go_ret
          rw [HLc.out]; exact T1.post
end Go.Proofs.Ytjfagpmklifjlaa.Lis
