/- FAt in one text. -/
import Derived.Test.YtmenmepdmojnfaaGreatDoorMw28

namespace Go.Proofs.YtmenmepdmojnfaaGreatDoor.Flp
set_option linter.unusedVariables false
set_option linter.unusedSimpArgs false
set_option maxRecDepth 100000
open Go.RowKit Go.Proofs.YtmenmepdmojnfaaGreatDoor.Dom Go.Proofs.YtmenmepdmojnfaaGreatDoor.Dms Go.Proofs.YtmenmepdmojnfaaGreatDoor.Til Go.Joins
open Go.Proofs.YtmenmepdmojnfaaGreatDoor.Reg (own_below own_base)

set_option maxHeartbeats 12000000 in
theorem iFlipAt_yes (w : World) (A : Option Addr) (n cap B : Nat) (L : List Dm) (hL : L.length = n) (hn : (n : Int) ≤ 1048576) (hf : Fits L) (h : RowM w B A L) (hB : B ≤ w.heap.size) (x y : Int) (hk : kindN L x y ≠ 0) :
    Calls Tryz.prog 81 #[.slice A n cap, .agg #[.int .i64 x, .int .i64 y]] w (FlPost (flipL L x y) true w) := by
  have HK := Lib.hid (fun W (hb : Below w.heap.size w W) => iKinds W A n cap B L hL (by omega) (h.below hb hB) (by have := hb.size; omega) x y)
  have HC := Lib.hid (fun W (hb : Below w.heap.size w W) => iCloneM W A n cap B L hL hn (h.below hb hB) (by have := hb.size; omega))
  have T0 := Lib.hid (cb_start x y w)
  obtain ⟨bb, hbb⟩ : ∃ bb, bb = decide (kindN L x y = 2) := ⟨_, rfl⟩
  have hkd : kdV (kindN L x y) = .tuple #[.func (.func (fnN bb)) #[] #[], .func (.func (fnN (!bb))) #[] #[], .bool true] := by
    have := kind_le L x y
    obtain e | e : kindN L x y = 1 ∨ kindN L x y = 2 := by omega
    · rw [hbb, e]; rfl
    · rw [hbb, e]; rfl
  unfold KdP at HK
  rw [hkd] at HK
  have HF1 := Lib.hid (fun W => iPair x y bb W)
  have HF2 := Lib.hid (fun W => iPair x y (!bb) W)
  have eg1 := fun args W => enters_pair bb args W
  have eg2 := fun args W => enters_pair (!bb) args W
  generalize fnN bb = f1 at HK HF1 eg1
  generalize fnN (!bb) = f2 at HK HF2 eg2
  obtain ⟨h6, h2⟩ := kind_is hk
  have hfl := flip_yes hk
  rw [← hbb] at h2 hfl
  have hm1 := (has2_iff.1 h2).1
  have hlen := oth_two h2
  rw [show oth L x y bb = othTo L (pr1 x y bb) (pr2 x y bb) n by unfold oth othTo; rw [← hL, List.take_length], ← pw_in h6] at hlen
  have hin := in6_iff.1 h6
  have hFit : Fits (othTo L (pr1 x y bb) (pw2 x y bb) n ++ [pr1 x y (!bb), pw2 x y (!bb)]) := by
    intro p hp
    rcases List.mem_append.1 hp with q | q
    · exact hf p (List.mem_of_mem_take (List.mem_filter.1 q).1)
    · rw [pw_in h6] at q
      have o1 := ok1 hin (!bb)
      have o2 := ok2 hin (!bb)
      simp only [List.mem_cons, List.not_mem_nil, or_false] at q
      rcases q with rfl | rfl
      · exact fits_ok o1
      · exact fits_ok o2
  have hSo : sortM (othTo L (pr1 x y bb) (pw2 x y bb) n ++ [pr1 x y (!bb), pw2 x y (!bb)]) = flipL L x y := by
    rw [hfl, pw_in h6, pw_in h6]
    have e : oth L x y bb = othTo L (pr1 x y bb) (pr2 x y bb) n := by unfold oth othTo; rw [← hL, List.take_length]
    unfold turn
    rw [e]
    refine sortM_of (sortM_good _).1 fun p => ?_
    rw [(sortM_good _).2 p, List.mem_append, List.mem_cons, List.mem_cons, List.mem_cons, List.mem_cons]
    constructor
    · rintro ⟨q | q | q, ho⟩
      · exact ⟨.inr (.inl q), ho⟩
      · exact ⟨.inr (.inr (.inl q)), ho⟩
      · exact ⟨.inl q, ho⟩
    · rintro ⟨q | q | q | q, ho⟩
      · exact ⟨.inr (.inr q), ho⟩
      · exact ⟨.inl q, ho⟩
      · exact ⟨.inr (.inl q), ho⟩
      · cases q
  have HEx := Lib.hid (show ∃ p ∈ L, oneB (pr1 x y bb) (pw2 x y bb) p = true from ⟨_, hm1, one_iff.2 (.inl rfl)⟩)
  have HFt := Lib.hid hFit
  have HSo := Lib.hid hSo
  have HLe := Lib.hid (show (othTo L (pr1 x y bb) (pw2 x y bb) n).length + 2 ≤ n by omega)
  have HLn := Lib.hid hL
  have HN := Lib.hid hn
  clear hkd hL h hB hn hk h6 h2 hfl hm1 hlen hin hFit hSo hbb
  generalize flipL L x y = M at HSo ⊢
  go_enter Tryz.func81, Tryz.ntmps81
  go_wp2_with fail
  have c0 := T0.out.2.c0
  have c1 := T0.out.2.c1
  refine (HK.out _ T0.out.1).mono ?_
  rintro e w1 ⟨rfl, hb1⟩
  have T1 := T0.out.on hb1
  clear T0 hb1 HK c0 c1
  go_upto_region 4 with fail
  generalize pr1 x y bb = D1 at HF1 HEx HFt HSo HLe
  generalize pw2 x y bb = D2 at HF1 HEx HFt HSo HLe
  generalize pr1 x y (!bb) = D3 at HF2 HFt HSo
  generalize pw2 x y (!bb) = D4 at HF2 HFt HSo
  refine' wp_of_rest2' _ (fun W p9 p10 => CB w x y W ∧ At6 W p9 D1 D2 ∧ At6 W p10 D3 D4 ∧ p9 ≠ p10) ?_ ?_
  rotate_left
  · intro Q R
    have R := Lib.hid R
    have T1 := T1.drew
    refine wp_region_noPanic ?_
    refine wp_region_held_drew (S := (fun w' => w'.cell? ⟨w.heap.size, 0, none⟩ = some (.int .i64 x) ∧ w'.cell? ⟨w.heap.size, 1, none⟩ = some (.int .i64 y))) (by kernel_rfl) ⟨T1.2.c0, T1.2.c1⟩ (fun hHeld => ?_)
    generalize World.drew _ = WR at T1 hHeld ⊢
    refine wpAnyH_take (i := 0) (v := ?_) rfl (by kernel_rfl) (by kernel_rfl) (by kernel_rfl) (fun _ _ _ h => h) (Or.inl ⟨by rfl, ?_⟩) (by assumption) ?_
    rotate_left
    · (intro w' hS; (try dsimp only at hS); go_simp; try with_reducible rfl)
    try simp only [Act.put, List.getElem_toArray, List.getElem_cons_succ, List.getElem_cons_zero, List.setIfInBounds_toArray, List.set_cons_zero, List.set_cons_succ]
    refine wpAnyH_take (i := 1) (v := ?_) rfl (by kernel_rfl) (by kernel_rfl) (by kernel_rfl) (fun _ _ _ h => h) (Or.inl ⟨by rfl, ?_⟩) (by assumption) ?_
    rotate_left
    · (intro w' hS; (try dsimp only at hS); go_simp; try with_reducible rfl)
    try simp only [Act.put, List.getElem_toArray, List.getElem_cons_succ, List.getElem_cons_zero, List.setIfInBounds_toArray, List.set_cons_zero, List.set_cons_succ]
    refine wpAnyH_take (i := 3) (v := ?_) rfl (by kernel_rfl) (by kernel_rfl) (by kernel_rfl) (fun _ _ _ h => h) (Or.inl ⟨by rfl, ?_⟩) (by assumption) ?_
    rotate_left
    · (intro w' hS; (try dsimp only at hS); go_simp; try with_reducible rfl)
    try simp only [Act.put, List.getElem_toArray, List.getElem_cons_succ, List.getElem_cons_zero, List.setIfInBounds_toArray, List.set_cons_zero, List.set_cons_succ]
    refine wpAnyH_take (i := 4) (v := ?_) rfl (by kernel_rfl) (by kernel_rfl) (by kernel_rfl) (fun _ _ _ h => h) (Or.inl ⟨by rfl, ?_⟩) (by assumption) ?_
    rotate_left
    · (intro w' hS; (try dsimp only at hS); go_simp; try with_reducible rfl)
    try simp only [Act.put, List.getElem_toArray, List.getElem_cons_succ, List.getElem_cons_zero, List.setIfInBounds_toArray, List.set_cons_zero, List.set_cons_succ]
    clear hHeld
    refine' by_leaf _ (fun W p9 p10 => CB w x y W ∧ At6 W p9 (0, 0, false) (0, 0, false) ∧ At6 W p10 (0, 0, false) (0, 0, false) ∧ p9 ≠ p10 ∧ w.heap.size < p9 ∧ w.heap.size < p10) ?_ ?_
    rotate_left
    · intro HX
      refine wpAnyH_ready (rs := [2, 6, 7]) (by kernel_rfl) (by simp) ?_
      refine (AllReadyH.cons rfl (fun K hK => ?_) (AllReadyH.cons rfl (fun K hK => ?_) (AllReadyH.cons rfl (fun K hK => ?_) AllReadyH.nil)))
      ·
        go_simp
        refine (HF1.out _).mono ?_
        rintro e wx ⟨rfl, hbx⟩
        have T1 := T1.on hbx
        clear hbx
        go_wp2_with fail
        refine hK.out _ _ ⟨T1.2.c0, T1.2.c1⟩ (fun hHeld => ?_)
        clear hK K hHeld
        try simp only [Act.put, List.getElem_toArray, List.getElem_cons_succ, List.getElem_cons_zero, List.setIfInBounds_toArray, List.set_cons_zero, List.set_cons_succ]
        refine wpAnyH_ready (rs := [5, 6, 7]) (by kernel_rfl) (by simp) ?_
        refine (AllReadyH.cons rfl (fun K hK => ?_) (AllReadyH.cons rfl (fun K hK => ?_) (AllReadyH.cons rfl (fun K hK => ?_) AllReadyH.nil)))
        ·
          go_simp
          refine (HF2.out _).mono ?_
          rintro e wx ⟨rfl, hbx⟩
          have T1 := T1.on hbx
          clear hbx
          go_wp2_with fail
          refine hK.out _ _ ⟨T1.2.c0, T1.2.c1⟩ (fun hHeld => ?_)
          clear hK K hHeld
          try simp only [Act.put, List.getElem_toArray, List.getElem_cons_succ, List.getElem_cons_zero, List.setIfInBounds_toArray, List.set_cons_zero, List.set_cons_succ]
          refine wpAnyH_ready (rs := [6, 7]) (by kernel_rfl) (by simp) ?_
          refine (AllReadyH.cons rfl (fun K hK => ?_) (AllReadyH.cons rfl (fun K hK => ?_) AllReadyH.nil))
          ·
            go_simp
            obtain ⟨T1, Z9, hbn, h9⟩ := alloc_six T1
            clear hbn
            refine hK.out _ _ ⟨T1.2.c0, T1.2.c1⟩ (fun hHeld => ?_)
            clear hK K hHeld
            try simp only [Act.put, List.getElem_toArray, List.getElem_cons_succ, List.getElem_cons_zero, List.setIfInBounds_toArray, List.set_cons_zero, List.set_cons_succ]
            generalize World.alloc _ (.cells #[.int .i64 0, .int .i64 0, .bool false, .int .i64 0, .int .i64 0, .bool false] 137) = WA6 at T1 Z9 ⊢
            generalize wx.heap.size = p9 at Z9 h9 ⊢
            refine wpAnyH_ready (rs := [7]) (by kernel_rfl) (by simp) ?_
            refine (AllReadyH.cons rfl (fun K hK => ?_) AllReadyH.nil)
            go_simp
            have lZ9 := Z9.lt
            obtain ⟨T1, Z10, hbn, h10⟩ := alloc_six T1
            have Z9 := Z9.on hbn
            clear hbn
            refine hK.out _ _ ⟨T1.2.c0, T1.2.c1⟩ (fun hHeld => ?_)
            clear hK K hHeld
            try simp only [Act.put, List.getElem_toArray, List.getElem_cons_succ, List.getElem_cons_zero, List.setIfInBounds_toArray, List.set_cons_zero, List.set_cons_succ]
            generalize World.alloc _ (.cells #[.int .i64 0, .int .i64 0, .bool false, .int .i64 0, .int .i64 0, .bool false] 137) = WA7 at T1 Z9 Z10 ⊢
            generalize WA6.heap.size = p10 at Z10 h10 lZ9 ⊢
            exact HX _ p9 p10 ⟨T1, Z9, Z10, by omega, h9, h10⟩
          ·
            go_simp
            obtain ⟨T1, Z10, hbn, h10⟩ := alloc_six T1
            clear hbn
            refine hK.out _ _ ⟨T1.2.c0, T1.2.c1⟩ (fun hHeld => ?_)
            clear hK K hHeld
            try simp only [Act.put, List.getElem_toArray, List.getElem_cons_succ, List.getElem_cons_zero, List.setIfInBounds_toArray, List.set_cons_zero, List.set_cons_succ]
            generalize World.alloc _ (.cells #[.int .i64 0, .int .i64 0, .bool false, .int .i64 0, .int .i64 0, .bool false] 137) = WA7 at T1 Z10 ⊢
            generalize wx.heap.size = p10 at Z10 h10 ⊢
            refine wpAnyH_ready (rs := [6]) (by kernel_rfl) (by simp) ?_
            refine (AllReadyH.cons rfl (fun K hK => ?_) AllReadyH.nil)
            go_simp
            have lZ10 := Z10.lt
            obtain ⟨T1, Z9, hbn, h9⟩ := alloc_six T1
            have Z10 := Z10.on hbn
            clear hbn
            refine hK.out _ _ ⟨T1.2.c0, T1.2.c1⟩ (fun hHeld => ?_)
            clear hK K hHeld
            try simp only [Act.put, List.getElem_toArray, List.getElem_cons_succ, List.getElem_cons_zero, List.setIfInBounds_toArray, List.set_cons_zero, List.set_cons_succ]
            generalize World.alloc _ (.cells #[.int .i64 0, .int .i64 0, .bool false, .int .i64 0, .int .i64 0, .bool false] 137) = WA6 at T1 Z10 Z9 ⊢
            generalize WA7.heap.size = p9 at Z9 h9 lZ10 ⊢
            exact HX _ p9 p10 ⟨T1, Z9, Z10, by omega, h9, h10⟩
        ·
          go_simp
          obtain ⟨T1, Z9, hbn, h9⟩ := alloc_six T1
          clear hbn
          refine hK.out _ _ ⟨T1.2.c0, T1.2.c1⟩ (fun hHeld => ?_)
          clear hK K hHeld
          try simp only [Act.put, List.getElem_toArray, List.getElem_cons_succ, List.getElem_cons_zero, List.setIfInBounds_toArray, List.set_cons_zero, List.set_cons_succ]
          generalize World.alloc _ (.cells #[.int .i64 0, .int .i64 0, .bool false, .int .i64 0, .int .i64 0, .bool false] 137) = WA6 at T1 Z9 ⊢
          generalize wx.heap.size = p9 at Z9 h9 ⊢
          refine wpAnyH_ready (rs := [5, 7]) (by kernel_rfl) (by simp) ?_
          refine (AllReadyH.cons rfl (fun K hK => ?_) (AllReadyH.cons rfl (fun K hK => ?_) AllReadyH.nil))
          ·
            go_simp
            refine (HF2.out _).mono ?_
            rintro e wx ⟨rfl, hbx⟩
            have Z9 := Z9.on hbx
            have T1 := T1.on hbx
            clear hbx
            go_wp2_with fail
            refine hK.out _ _ ⟨T1.2.c0, T1.2.c1⟩ (fun hHeld => ?_)
            clear hK K hHeld
            try simp only [Act.put, List.getElem_toArray, List.getElem_cons_succ, List.getElem_cons_zero, List.setIfInBounds_toArray, List.set_cons_zero, List.set_cons_succ]
            refine wpAnyH_ready (rs := [7]) (by kernel_rfl) (by simp) ?_
            refine (AllReadyH.cons rfl (fun K hK => ?_) AllReadyH.nil)
            go_simp
            have lZ9 := Z9.lt
            obtain ⟨T1, Z10, hbn, h10⟩ := alloc_six T1
            have Z9 := Z9.on hbn
            clear hbn
            refine hK.out _ _ ⟨T1.2.c0, T1.2.c1⟩ (fun hHeld => ?_)
            clear hK K hHeld
            try simp only [Act.put, List.getElem_toArray, List.getElem_cons_succ, List.getElem_cons_zero, List.setIfInBounds_toArray, List.set_cons_zero, List.set_cons_succ]
            generalize World.alloc _ (.cells #[.int .i64 0, .int .i64 0, .bool false, .int .i64 0, .int .i64 0, .bool false] 137) = WA7 at T1 Z9 Z10 ⊢
            generalize wx.heap.size = p10 at Z10 h10 lZ9 ⊢
            exact HX _ p9 p10 ⟨T1, Z9, Z10, by omega, h9, h10⟩
          ·
            go_simp
            have lZ9 := Z9.lt
            obtain ⟨T1, Z10, hbn, h10⟩ := alloc_six T1
            have Z9 := Z9.on hbn
            clear hbn
            refine hK.out _ _ ⟨T1.2.c0, T1.2.c1⟩ (fun hHeld => ?_)
            clear hK K hHeld
            try simp only [Act.put, List.getElem_toArray, List.getElem_cons_succ, List.getElem_cons_zero, List.setIfInBounds_toArray, List.set_cons_zero, List.set_cons_succ]
            generalize World.alloc _ (.cells #[.int .i64 0, .int .i64 0, .bool false, .int .i64 0, .int .i64 0, .bool false] 137) = WA7 at T1 Z9 Z10 ⊢
            generalize WA6.heap.size = p10 at Z10 h10 lZ9 ⊢
            refine wpAnyH_ready (rs := [5]) (by kernel_rfl) (by simp) ?_
            refine (AllReadyH.cons rfl (fun K hK => ?_) AllReadyH.nil)
            go_simp
            refine (HF2.out _).mono ?_
            rintro e wx ⟨rfl, hbx⟩
            have Z9 := Z9.on hbx
            have Z10 := Z10.on hbx
            have T1 := T1.on hbx
            clear hbx
            go_wp2_with fail
            refine hK.out _ _ ⟨T1.2.c0, T1.2.c1⟩ (fun hHeld => ?_)
            clear hK K hHeld
            try simp only [Act.put, List.getElem_toArray, List.getElem_cons_succ, List.getElem_cons_zero, List.setIfInBounds_toArray, List.set_cons_zero, List.set_cons_succ]
            exact HX _ p9 p10 ⟨T1, Z9, Z10, by omega, h9, h10⟩
        ·
          go_simp
          obtain ⟨T1, Z10, hbn, h10⟩ := alloc_six T1
          clear hbn
          refine hK.out _ _ ⟨T1.2.c0, T1.2.c1⟩ (fun hHeld => ?_)
          clear hK K hHeld
          try simp only [Act.put, List.getElem_toArray, List.getElem_cons_succ, List.getElem_cons_zero, List.setIfInBounds_toArray, List.set_cons_zero, List.set_cons_succ]
          generalize World.alloc _ (.cells #[.int .i64 0, .int .i64 0, .bool false, .int .i64 0, .int .i64 0, .bool false] 137) = WA7 at T1 Z10 ⊢
          generalize wx.heap.size = p10 at Z10 h10 ⊢
          refine wpAnyH_ready (rs := [5, 6]) (by kernel_rfl) (by simp) ?_
          refine (AllReadyH.cons rfl (fun K hK => ?_) (AllReadyH.cons rfl (fun K hK => ?_) AllReadyH.nil))
          ·
            go_simp
            refine (HF2.out _).mono ?_
            rintro e wx ⟨rfl, hbx⟩
            have Z10 := Z10.on hbx
            have T1 := T1.on hbx
            clear hbx
            go_wp2_with fail
            refine hK.out _ _ ⟨T1.2.c0, T1.2.c1⟩ (fun hHeld => ?_)
            clear hK K hHeld
            try simp only [Act.put, List.getElem_toArray, List.getElem_cons_succ, List.getElem_cons_zero, List.setIfInBounds_toArray, List.set_cons_zero, List.set_cons_succ]
            refine wpAnyH_ready (rs := [6]) (by kernel_rfl) (by simp) ?_
            refine (AllReadyH.cons rfl (fun K hK => ?_) AllReadyH.nil)
            go_simp
            have lZ10 := Z10.lt
            obtain ⟨T1, Z9, hbn, h9⟩ := alloc_six T1
            have Z10 := Z10.on hbn
            clear hbn
            refine hK.out _ _ ⟨T1.2.c0, T1.2.c1⟩ (fun hHeld => ?_)
            clear hK K hHeld
            try simp only [Act.put, List.getElem_toArray, List.getElem_cons_succ, List.getElem_cons_zero, List.setIfInBounds_toArray, List.set_cons_zero, List.set_cons_succ]
            generalize World.alloc _ (.cells #[.int .i64 0, .int .i64 0, .bool false, .int .i64 0, .int .i64 0, .bool false] 137) = WA6 at T1 Z10 Z9 ⊢
            generalize wx.heap.size = p9 at Z9 h9 lZ10 ⊢
            exact HX _ p9 p10 ⟨T1, Z9, Z10, by omega, h9, h10⟩
          ·
            go_simp
            have lZ10 := Z10.lt
            obtain ⟨T1, Z9, hbn, h9⟩ := alloc_six T1
            have Z10 := Z10.on hbn
            clear hbn
            refine hK.out _ _ ⟨T1.2.c0, T1.2.c1⟩ (fun hHeld => ?_)
            clear hK K hHeld
            try simp only [Act.put, List.getElem_toArray, List.getElem_cons_succ, List.getElem_cons_zero, List.setIfInBounds_toArray, List.set_cons_zero, List.set_cons_succ]
            generalize World.alloc _ (.cells #[.int .i64 0, .int .i64 0, .bool false, .int .i64 0, .int .i64 0, .bool false] 137) = WA6 at T1 Z10 Z9 ⊢
            generalize WA7.heap.size = p9 at Z9 h9 lZ10 ⊢
            refine wpAnyH_ready (rs := [5]) (by kernel_rfl) (by simp) ?_
            refine (AllReadyH.cons rfl (fun K hK => ?_) AllReadyH.nil)
            go_simp
            refine (HF2.out _).mono ?_
            rintro e wx ⟨rfl, hbx⟩
            have Z9 := Z9.on hbx
            have Z10 := Z10.on hbx
            have T1 := T1.on hbx
            clear hbx
            go_wp2_with fail
            refine hK.out _ _ ⟨T1.2.c0, T1.2.c1⟩ (fun hHeld => ?_)
            clear hK K hHeld
            try simp only [Act.put, List.getElem_toArray, List.getElem_cons_succ, List.getElem_cons_zero, List.setIfInBounds_toArray, List.set_cons_zero, List.set_cons_succ]
            exact HX _ p9 p10 ⟨T1, Z9, Z10, by omega, h9, h10⟩
      ·
        go_simp
        obtain ⟨T1, Z9, hbn, h9⟩ := alloc_six T1
        clear hbn
        refine hK.out _ _ ⟨T1.2.c0, T1.2.c1⟩ (fun hHeld => ?_)
        clear hK K hHeld
        try simp only [Act.put, List.getElem_toArray, List.getElem_cons_succ, List.getElem_cons_zero, List.setIfInBounds_toArray, List.set_cons_zero, List.set_cons_succ]
        generalize World.alloc _ (.cells #[.int .i64 0, .int .i64 0, .bool false, .int .i64 0, .int .i64 0, .bool false] 137) = WA6 at T1 Z9 ⊢
        generalize WR.heap.size = p9 at Z9 h9 ⊢
        refine wpAnyH_ready (rs := [2, 7]) (by kernel_rfl) (by simp) ?_
        refine (AllReadyH.cons rfl (fun K hK => ?_) (AllReadyH.cons rfl (fun K hK => ?_) AllReadyH.nil))
        ·
          go_simp
          refine (HF1.out _).mono ?_
          rintro e wx ⟨rfl, hbx⟩
          have Z9 := Z9.on hbx
          have T1 := T1.on hbx
          clear hbx
          go_wp2_with fail
          refine hK.out _ _ ⟨T1.2.c0, T1.2.c1⟩ (fun hHeld => ?_)
          clear hK K hHeld
          try simp only [Act.put, List.getElem_toArray, List.getElem_cons_succ, List.getElem_cons_zero, List.setIfInBounds_toArray, List.set_cons_zero, List.set_cons_succ]
          refine wpAnyH_ready (rs := [5, 7]) (by kernel_rfl) (by simp) ?_
          refine (AllReadyH.cons rfl (fun K hK => ?_) (AllReadyH.cons rfl (fun K hK => ?_) AllReadyH.nil))
          ·
            go_simp
            refine (HF2.out _).mono ?_
            rintro e wx ⟨rfl, hbx⟩
            have Z9 := Z9.on hbx
            have T1 := T1.on hbx
            clear hbx
            go_wp2_with fail
            refine hK.out _ _ ⟨T1.2.c0, T1.2.c1⟩ (fun hHeld => ?_)
            clear hK K hHeld
            try simp only [Act.put, List.getElem_toArray, List.getElem_cons_succ, List.getElem_cons_zero, List.setIfInBounds_toArray, List.set_cons_zero, List.set_cons_succ]
            refine wpAnyH_ready (rs := [7]) (by kernel_rfl) (by simp) ?_
            refine (AllReadyH.cons rfl (fun K hK => ?_) AllReadyH.nil)
            go_simp
            have lZ9 := Z9.lt
            obtain ⟨T1, Z10, hbn, h10⟩ := alloc_six T1
            have Z9 := Z9.on hbn
            clear hbn
            refine hK.out _ _ ⟨T1.2.c0, T1.2.c1⟩ (fun hHeld => ?_)
            clear hK K hHeld
            try simp only [Act.put, List.getElem_toArray, List.getElem_cons_succ, List.getElem_cons_zero, List.setIfInBounds_toArray, List.set_cons_zero, List.set_cons_succ]
            generalize World.alloc _ (.cells #[.int .i64 0, .int .i64 0, .bool false, .int .i64 0, .int .i64 0, .bool false] 137) = WA7 at T1 Z9 Z10 ⊢
            generalize wx.heap.size = p10 at Z10 h10 lZ9 ⊢
            exact HX _ p9 p10 ⟨T1, Z9, Z10, by omega, h9, h10⟩
          ·
            go_simp
            have lZ9 := Z9.lt
            obtain ⟨T1, Z10, hbn, h10⟩ := alloc_six T1
            have Z9 := Z9.on hbn
            clear hbn
            refine hK.out _ _ ⟨T1.2.c0, T1.2.c1⟩ (fun hHeld => ?_)
            clear hK K hHeld
            try simp only [Act.put, List.getElem_toArray, List.getElem_cons_succ, List.getElem_cons_zero, List.setIfInBounds_toArray, List.set_cons_zero, List.set_cons_succ]
            generalize World.alloc _ (.cells #[.int .i64 0, .int .i64 0, .bool false, .int .i64 0, .int .i64 0, .bool false] 137) = WA7 at T1 Z9 Z10 ⊢
            generalize wx.heap.size = p10 at Z10 h10 lZ9 ⊢
            refine wpAnyH_ready (rs := [5]) (by kernel_rfl) (by simp) ?_
            refine (AllReadyH.cons rfl (fun K hK => ?_) AllReadyH.nil)
            go_simp
            refine (HF2.out _).mono ?_
            rintro e wx ⟨rfl, hbx⟩
            have Z9 := Z9.on hbx
            have Z10 := Z10.on hbx
            have T1 := T1.on hbx
            clear hbx
            go_wp2_with fail
            refine hK.out _ _ ⟨T1.2.c0, T1.2.c1⟩ (fun hHeld => ?_)
            clear hK K hHeld
            try simp only [Act.put, List.getElem_toArray, List.getElem_cons_succ, List.getElem_cons_zero, List.setIfInBounds_toArray, List.set_cons_zero, List.set_cons_succ]
            exact HX _ p9 p10 ⟨T1, Z9, Z10, by omega, h9, h10⟩
        ·
          go_simp
          have lZ9 := Z9.lt
          obtain ⟨T1, Z10, hbn, h10⟩ := alloc_six T1
          have Z9 := Z9.on hbn
          clear hbn
          refine hK.out _ _ ⟨T1.2.c0, T1.2.c1⟩ (fun hHeld => ?_)
          clear hK K hHeld
          try simp only [Act.put, List.getElem_toArray, List.getElem_cons_succ, List.getElem_cons_zero, List.setIfInBounds_toArray, List.set_cons_zero, List.set_cons_succ]
          generalize World.alloc _ (.cells #[.int .i64 0, .int .i64 0, .bool false, .int .i64 0, .int .i64 0, .bool false] 137) = WA7 at T1 Z9 Z10 ⊢
          generalize WA6.heap.size = p10 at Z10 h10 lZ9 ⊢
          refine wpAnyH_ready (rs := [2]) (by kernel_rfl) (by simp) ?_
          refine (AllReadyH.cons rfl (fun K hK => ?_) AllReadyH.nil)
          go_simp
          refine (HF1.out _).mono ?_
          rintro e wx ⟨rfl, hbx⟩
          have Z9 := Z9.on hbx
          have Z10 := Z10.on hbx
          have T1 := T1.on hbx
          clear hbx
          go_wp2_with fail
          refine hK.out _ _ ⟨T1.2.c0, T1.2.c1⟩ (fun hHeld => ?_)
          clear hK K hHeld
          try simp only [Act.put, List.getElem_toArray, List.getElem_cons_succ, List.getElem_cons_zero, List.setIfInBounds_toArray, List.set_cons_zero, List.set_cons_succ]
          refine wpAnyH_ready (rs := [5]) (by kernel_rfl) (by simp) ?_
          refine (AllReadyH.cons rfl (fun K hK => ?_) AllReadyH.nil)
          go_simp
          refine (HF2.out _).mono ?_
          rintro e wx ⟨rfl, hbx⟩
          have Z9 := Z9.on hbx
          have Z10 := Z10.on hbx
          have T1 := T1.on hbx
          clear hbx
          go_wp2_with fail
          refine hK.out _ _ ⟨T1.2.c0, T1.2.c1⟩ (fun hHeld => ?_)
          clear hK K hHeld
          try simp only [Act.put, List.getElem_toArray, List.getElem_cons_succ, List.getElem_cons_zero, List.setIfInBounds_toArray, List.set_cons_zero, List.set_cons_succ]
          exact HX _ p9 p10 ⟨T1, Z9, Z10, by omega, h9, h10⟩
      ·
        go_simp
        obtain ⟨T1, Z10, hbn, h10⟩ := alloc_six T1
        clear hbn
        refine hK.out _ _ ⟨T1.2.c0, T1.2.c1⟩ (fun hHeld => ?_)
        clear hK K hHeld
        try simp only [Act.put, List.getElem_toArray, List.getElem_cons_succ, List.getElem_cons_zero, List.setIfInBounds_toArray, List.set_cons_zero, List.set_cons_succ]
        generalize World.alloc _ (.cells #[.int .i64 0, .int .i64 0, .bool false, .int .i64 0, .int .i64 0, .bool false] 137) = WA7 at T1 Z10 ⊢
        generalize WR.heap.size = p10 at Z10 h10 ⊢
        refine wpAnyH_ready (rs := [2, 6]) (by kernel_rfl) (by simp) ?_
        refine (AllReadyH.cons rfl (fun K hK => ?_) (AllReadyH.cons rfl (fun K hK => ?_) AllReadyH.nil))
        ·
          go_simp
          refine (HF1.out _).mono ?_
          rintro e wx ⟨rfl, hbx⟩
          have Z10 := Z10.on hbx
          have T1 := T1.on hbx
          clear hbx
          go_wp2_with fail
          refine hK.out _ _ ⟨T1.2.c0, T1.2.c1⟩ (fun hHeld => ?_)
          clear hK K hHeld
          try simp only [Act.put, List.getElem_toArray, List.getElem_cons_succ, List.getElem_cons_zero, List.setIfInBounds_toArray, List.set_cons_zero, List.set_cons_succ]
          refine wpAnyH_ready (rs := [5, 6]) (by kernel_rfl) (by simp) ?_
          refine (AllReadyH.cons rfl (fun K hK => ?_) (AllReadyH.cons rfl (fun K hK => ?_) AllReadyH.nil))
          ·
            go_simp
            refine (HF2.out _).mono ?_
            rintro e wx ⟨rfl, hbx⟩
            have Z10 := Z10.on hbx
            have T1 := T1.on hbx
            clear hbx
            go_wp2_with fail
            refine hK.out _ _ ⟨T1.2.c0, T1.2.c1⟩ (fun hHeld => ?_)
            clear hK K hHeld
            try simp only [Act.put, List.getElem_toArray, List.getElem_cons_succ, List.getElem_cons_zero, List.setIfInBounds_toArray, List.set_cons_zero, List.set_cons_succ]
            refine wpAnyH_ready (rs := [6]) (by kernel_rfl) (by simp) ?_
            refine (AllReadyH.cons rfl (fun K hK => ?_) AllReadyH.nil)
            go_simp
            have lZ10 := Z10.lt
            obtain ⟨T1, Z9, hbn, h9⟩ := alloc_six T1
            have Z10 := Z10.on hbn
            clear hbn
            refine hK.out _ _ ⟨T1.2.c0, T1.2.c1⟩ (fun hHeld => ?_)
            clear hK K hHeld
            try simp only [Act.put, List.getElem_toArray, List.getElem_cons_succ, List.getElem_cons_zero, List.setIfInBounds_toArray, List.set_cons_zero, List.set_cons_succ]
            generalize World.alloc _ (.cells #[.int .i64 0, .int .i64 0, .bool false, .int .i64 0, .int .i64 0, .bool false] 137) = WA6 at T1 Z10 Z9 ⊢
            generalize wx.heap.size = p9 at Z9 h9 lZ10 ⊢
            exact HX _ p9 p10 ⟨T1, Z9, Z10, by omega, h9, h10⟩
          ·
            go_simp
            have lZ10 := Z10.lt
            obtain ⟨T1, Z9, hbn, h9⟩ := alloc_six T1
            have Z10 := Z10.on hbn
            clear hbn
            refine hK.out _ _ ⟨T1.2.c0, T1.2.c1⟩ (fun hHeld => ?_)
            clear hK K hHeld
            try simp only [Act.put, List.getElem_toArray, List.getElem_cons_succ, List.getElem_cons_zero, List.setIfInBounds_toArray, List.set_cons_zero, List.set_cons_succ]
            generalize World.alloc _ (.cells #[.int .i64 0, .int .i64 0, .bool false, .int .i64 0, .int .i64 0, .bool false] 137) = WA6 at T1 Z10 Z9 ⊢
            generalize wx.heap.size = p9 at Z9 h9 lZ10 ⊢
            refine wpAnyH_ready (rs := [5]) (by kernel_rfl) (by simp) ?_
            refine (AllReadyH.cons rfl (fun K hK => ?_) AllReadyH.nil)
            go_simp
            refine (HF2.out _).mono ?_
            rintro e wx ⟨rfl, hbx⟩
            have Z9 := Z9.on hbx
            have Z10 := Z10.on hbx
            have T1 := T1.on hbx
            clear hbx
            go_wp2_with fail
            refine hK.out _ _ ⟨T1.2.c0, T1.2.c1⟩ (fun hHeld => ?_)
            clear hK K hHeld
            try simp only [Act.put, List.getElem_toArray, List.getElem_cons_succ, List.getElem_cons_zero, List.setIfInBounds_toArray, List.set_cons_zero, List.set_cons_succ]
            exact HX _ p9 p10 ⟨T1, Z9, Z10, by omega, h9, h10⟩
        ·
          go_simp
          have lZ10 := Z10.lt
          obtain ⟨T1, Z9, hbn, h9⟩ := alloc_six T1
          have Z10 := Z10.on hbn
          clear hbn
          refine hK.out _ _ ⟨T1.2.c0, T1.2.c1⟩ (fun hHeld => ?_)
          clear hK K hHeld
          try simp only [Act.put, List.getElem_toArray, List.getElem_cons_succ, List.getElem_cons_zero, List.setIfInBounds_toArray, List.set_cons_zero, List.set_cons_succ]
          generalize World.alloc _ (.cells #[.int .i64 0, .int .i64 0, .bool false, .int .i64 0, .int .i64 0, .bool false] 137) = WA6 at T1 Z10 Z9 ⊢
          generalize WA7.heap.size = p9 at Z9 h9 lZ10 ⊢
          refine wpAnyH_ready (rs := [2]) (by kernel_rfl) (by simp) ?_
          refine (AllReadyH.cons rfl (fun K hK => ?_) AllReadyH.nil)
          go_simp
          refine (HF1.out _).mono ?_
          rintro e wx ⟨rfl, hbx⟩
          have Z9 := Z9.on hbx
          have Z10 := Z10.on hbx
          have T1 := T1.on hbx
          clear hbx
          go_wp2_with fail
          refine hK.out _ _ ⟨T1.2.c0, T1.2.c1⟩ (fun hHeld => ?_)
          clear hK K hHeld
          try simp only [Act.put, List.getElem_toArray, List.getElem_cons_succ, List.getElem_cons_zero, List.setIfInBounds_toArray, List.set_cons_zero, List.set_cons_succ]
          refine wpAnyH_ready (rs := [5]) (by kernel_rfl) (by simp) ?_
          refine (AllReadyH.cons rfl (fun K hK => ?_) AllReadyH.nil)
          go_simp
          refine (HF2.out _).mono ?_
          rintro e wx ⟨rfl, hbx⟩
          have Z9 := Z9.on hbx
          have Z10 := Z10.on hbx
          have T1 := T1.on hbx
          clear hbx
          go_wp2_with fail
          refine hK.out _ _ ⟨T1.2.c0, T1.2.c1⟩ (fun hHeld => ?_)
          clear hK K hHeld
          try simp only [Act.put, List.getElem_toArray, List.getElem_cons_succ, List.getElem_cons_zero, List.setIfInBounds_toArray, List.set_cons_zero, List.set_cons_succ]
          exact HX _ p9 p10 ⟨T1, Z9, Z10, by omega, h9, h10⟩
    · intro WL p9 p10 ⟨T1, Z9, Z10, hne, h9, h10⟩
      refine wpAnyH_ready (rs := [8]) (by kernel_rfl) (by simp) ?_
      refine AllReadyH.cons rfl (fun K hK => ?_) AllReadyH.nil
      obtain ⟨⟨d0, d1, d2, d3, d4, d5⟩, e0, e1, e2, e3, e4, e5⟩ := At6.facts Z9
      have T1 := T1.put6 D1 D2 h9
      have Z10 := Z10.far D1 D2 (by omega : p10 ≠ p9)
      have Z9 := Z9.put D1 D2
      go_simp
      clear d0 d1 d2 d3 d4 d5 e0 e1 e2 e3 e4 e5
      show K _ (put6 _ p9 D1 D2)
      generalize put6 _ p9 D1 D2 = WS8 at T1 Z9 Z10 ⊢
      refine hK.out _ _ ⟨T1.2.c0, T1.2.c1⟩ (fun hHeld => ?_)
      clear hK K hHeld
      try simp only [Act.put, List.getElem_toArray, List.getElem_cons_succ, List.getElem_cons_zero, List.setIfInBounds_toArray, List.set_cons_zero, List.set_cons_succ]
      refine wpAnyH_ready (rs := [9]) (by kernel_rfl) (by simp) ?_
      refine AllReadyH.cons rfl (fun K hK => ?_) AllReadyH.nil
      obtain ⟨⟨d0, d1, d2, d3, d4, d5⟩, e0, e1, e2, e3, e4, e5⟩ := At6.facts Z10
      have T1 := T1.put6 D3 D4 h10
      have Z9 := Z9.far D3 D4 (by omega : p9 ≠ p10)
      have Z10 := Z10.put D3 D4
      go_simp
      clear d0 d1 d2 d3 d4 d5 e0 e1 e2 e3 e4 e5
      show K _ (put6 _ p10 D3 D4)
      generalize put6 _ p10 D3 D4 = WS9 at T1 Z9 Z10 ⊢
      refine hK.out _ _ ⟨T1.2.c0, T1.2.c1⟩ (fun hHeld => ?_)
      clear hK K hHeld
      try simp only [Act.put, List.getElem_toArray, List.getElem_cons_succ, List.getElem_cons_zero, List.setIfInBounds_toArray, List.set_cons_zero, List.set_cons_succ]
      refine wpAnyH_done (by kernel_rfl) ?_ _
      refine NoPanic.normal ?_
      exact R.out _ p9 p10 ⟨T1, Z9, Z10, by omega⟩
  · intro W p9 p10 ⟨T2, Z9, Z10, hne⟩
    clear T1 HF1 HF2
    have H9 := Lib.hid Z9
    have H10 := Lib.hid Z10
    have HT := Lib.hid T2
    clear T2 Z9 Z10
    go_wp2_with fail
    refine (HC.out _ HT.out.1).mono ?_
    rintro e w3 ⟨A2, c2, rfl, hc, hown, hb3⟩
    obtain ⟨g, hA2, hg⟩ : ∃ g, A2 = some ⟨g, 0, none⟩ ∧ W.heap.size ≤ g := by
      rcases hown.2 with ⟨q, _⟩ | ⟨g, cap', cur, q, hlo, _⟩
      · injection q with q1 q2 q3
        have := HLe.out; omega
      · injection q with q1 q2 q3
        exact ⟨g, q1, hlo⟩
    subst hA2
    have HD := Lib.hid (iDeleteF w3 W.heap.size g n c2 p9 L D1 D2 HN.out hown (H9.out.on hb3) (by have := H9.out.lt; omega) HEx.out)
    have H10b := Lib.hid (H10.out.on hb3)
    have HB3 := Lib.hid (HT.out.1.trans (hb3.mono HT.out.1.size))
    have hz10 := H10.out.lt
    have hzT := HT.out.1.size
    clear hown hb3 H9 H10 HEx
    go_wp2_with fail
    refine HD.out.mono ?_
    rintro e w4 ⟨m, rfl, hm, hown4, hg4⟩
    have Z10 := Lib.hid (H10b.out.grown hg4 (by omega))
    have HB4 := Lib.hid (HB3.out.grown hg4 HB3.out.size (fun k hk => by injection hk with hk; omega))
    have hs4 := HB4.out.size
    have hlo4 := (hown4.lt g rfl).2
    obtain ⟨i0, hi, hz0, hz1, hz2⟩ := info_parts domInfo
    have HO4 := Lib.hid hown4
    have hmn : m + 2 ≤ n := by rw [hm]; exact HLe.out
    have HM := Lib.hid hm
    have hnn := HN.out
    have hWw : W.heap.size ≤ w4.heap.size := by omega
    clear hown4 hg4 HD HB3 H10b hm
    go_wp2_with (first
      | (at_builtin
         refine Lis.append_any _ rfl _ _ 27 rfl W.heap.size 73 i0 (.agg #[.int .i64 0, .int .i64 0, .bool false]) 3 24 Tryz.underlying27 hi hz0 hz1 hz2 rfl (by decide) g m c2 _ (by rfl) HO4.out ⟨p10, 0, none⟩ 2 2 (rowM [D3, D4]) (by rfl) rfl (fun j u hu => at6_news Z10.out j u hu) (rowM_one _) (by unfold maxLen; omega) (by omega) hWw ?_
         intro g6 c6 w6 hown6 hgr6 hat6 hlt6))
    rw [← rowM_app] at hown6
    have HS := Lib.hid (iSortDominoes w6 (some ⟨g6, 0, none⟩) (m + 2) c6 w6.heap.size _ (by rw [List.length_append, ← HM.out]; rfl) (by omega) HFt.out (rowM_own hown6) (Nat.le_refl _))
    rw [HSo.out] at HS
    have HB6 := Lib.hid (HB4.out.grown hgr6 hs4 (fun k hk => by injection hk with hk; omega))
    clear hown6 hgr6 hat6 HO4 HB4 Z10 HFt HSo
    refine HS.out.mono ?_
    rintro e w7 ⟨A7, c7, rfl, hc7, hown7, hb7⟩
    have HO7 := Lib.hid (own_base hown7 HB6.out.size)
    have HB7 := Lib.hid (HB6.out.trans (hb7.mono HB6.out.size))
    clear hown7 hb7 HB6 HS
    go_wp2
    exact bodyPost_ret (v := .tuple #[.slice A7 M.length c7, .bool true]) (by simp [results, Tryz.results81, go_sem]) rfl ⟨A7, c7, rfl, hc7, HO7.out, HB7.out⟩
theorem iFlipAt (w : World) (A : Option Addr) (n cap B : Nat) (L : List Dm) (hL : L.length = n) (hn : (n : Int) ≤ 1048576) (hf : Fits L) (h : RowM w B A L) (hB : B ≤ w.heap.size) (x y : Int) :
    Calls Tryz.prog 81 #[.slice A n cap, .agg #[.int .i64 x, .int .i64 y]] w (FlPost (flipL L x y) (canB L x y) w) := by
  by_cases hk : kindN L x y = 0
  · rw [flip_no hk, show canB L x y = false by unfold canB; rw [hk]; rfl]
    exact iFlipAt_no w A n cap B L hL hn h hB x y hk
  · rw [show canB L x y = true from decide_eq_true (by omega)]
    exact iFlipAt_yes w A n cap B L hL hn hf h hB x y hk
end Go.Proofs.YtmenmepdmojnfaaGreatDoor.Flp
