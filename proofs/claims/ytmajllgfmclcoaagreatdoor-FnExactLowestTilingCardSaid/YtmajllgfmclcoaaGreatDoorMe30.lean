/- ExA in one text. -/
import Derived.Test.YtmajllgfmclcoaaGreatDoorMe29
import Derived.Test.YtmajllgfmclcoaaGreatDoorMe10
import Derived.Laws.EntriesVeiled

namespace Go.Proofs.YtmajllgfmclcoaaGreatDoor.Ext
set_option linter.unusedVariables false
set_option linter.unusedSimpArgs false
set_option maxRecDepth 100000
open Go.RowKit Go.Proofs.YtmajllgfmclcoaaGreatDoor.Pure Go.Proofs.YtmajllgfmclcoaaGreatDoor.Cels Go.Proofs.YtmajllgfmclcoaaGreatDoor.Dms Go.Proofs.YtmajllgfmclcoaaGreatDoor.Til Go.Proofs.YtmajllgfmclcoaaGreatDoor.Dss Go.Proofs.YtmajllgfmclcoaaGreatDoor.Lis Go.Proofs.YtmajllgfmclcoaaGreatDoor.Sets Go.Joins
open Go.Proofs.YtmajllgfmclcoaaGreatDoor.Cnt (gR tiles gR_in gR_out idxs idxs_cells)
open Go.Proofs.YtmajllgfmclcoaaGreatDoor.Reg hiding Yes

theorem iExtend (xs : List Int) (ho : okR xs) (bN bT lim h : Nat) (hh : h = (cellsR xs).length / 2) (hlim : lim ≤ 1000) : ∀ f, ExtC xs bN bT lim h f
  | 0 => fun W K q x Ts M k _ _ _ _ _ _ hf => by omega
  | f + 1 => ext_leaf xs ho bN bT lim h hh hlim f (Lib.hid (ext_loop xs ho bN bT lim h hh hlim f (iExtend xs ho bN bT lim h hh hlim f)))

def allR (xs : List Int) : List (List Dm) := if okR xs then allT xs else []
theorem allR_ok {xs : List Int} (h : okR xs) : allR xs = allT xs := if_pos h
theorem allR_not {xs : List Int} (h : ¬ okR xs) : allR xs = [] := if_neg h
def halfR (xs : List Int) : Nat := (cellsR xs).length / 2
theorem allR_half {xs : List Int} : ∀ L ∈ allR xs, L.length = halfR xs := by
  intro L hL
  by_cases h : okR xs
  · rw [allR_ok h] at hL; exact all_half h L hL
  · rw [allR_not h] at hL; cases hL
def SSP (L : List (List Dm)) (h : Nat) (w : World) (e : Ending) (w' : World) : Prop := ∃ A cap, e = .returned (.slice A L.length cap) ∧ SSIn w' w.heap.size w'.heap.size A L.length cap h L ∧ Below w.heap.size w w'
theorem ss_nil (w : World) (lo hi h : Nat) : SSIn w lo hi none 0 0 h [] := ⟨[], ⟨⟨rfl, .inl ⟨rfl, rfl⟩⟩, fun g hg => by cases hg⟩, Ins.nil _ _ _ _⟩
theorem set_idxs (xs : List Int) : bt (setN (idxs xs)) = gR xs := by
  funext i
  rw [bt_set]
  unfold idxs
  by_cases h : gR xs i = true
  · have h64 : i < 64 := by
      by_cases q : i < 64
      · exact q
      · rw [gR_out xs i (by omega)] at h; cases h
    rw [h, decide_eq_true_eq]
    exact List.mem_filter.2 ⟨List.mem_range.2 h64, h⟩
  · have h : gR xs i = false := by simpa using h
    rw [h, decide_eq_false_iff_not]
    intro hm
    rw [(List.mem_filter.1 hm).2] at h; cases h
theorem idxs_lt {xs : List Int} : ∀ j ∈ idxs xs, j < 64 := fun j hj => List.mem_range.1 (List.mem_filter.1 hj).1
theorem U33 : U 33 = 8589934591 := by decide +kernel

theorem st_start (w w1 : World) (lim h : Nat) (hT : Tab w) (z : Value) (hw1 : Below w.heap.size w w1) (hN : w1.heap[w.heap.size + 1]? = some (.cells #[.int .i64 (lim : Int)] 3)) :
    St (fun j => j ≤ w.heap.size) (w.heap.size + 1) w1.heap.size lim h 0 [] [] ((((((w1.alloc (.cells #[.slice none 0 0] TLs)).alloc (.cells #[.slice none 0 0] TL)).alloc (.map #[] 0)).alloc (.cells #[.map (some (w1.heap.size + 2))] 120)).alloc (.cells #[z] 121)).setCell ⟨w1.heap.size + 4, 0, none⟩ (.func (.func 109) #[] (caps (w.heap.size + 1) w1.heap.size))) ∧
    Below w1.heap.size w1 ((((((w1.alloc (.cells #[.slice none 0 0] TLs)).alloc (.cells #[.slice none 0 0] TL)).alloc (.map #[] 0)).alloc (.cells #[.map (some (w1.heap.size + 2))] 120)).alloc (.cells #[z] 121)).setCell ⟨w1.heap.size + 4, 0, none⟩ (.func (.func 109) #[] (caps (w.heap.size + 1) w1.heap.size))) := by
  have hsz1 := lt_of_block hN
  have a0 := heap_alloc_new w1 (.cells #[.slice none 0 0] TLs)
  have b0 := below_alloc1 w1 (.cells #[.slice none 0 0] TLs)
  have z0 : (w1.alloc (.cells #[.slice none 0 0] TLs)).heap.size = w1.heap.size + 1 := by simp
  generalize w1.alloc (.cells #[.slice none 0 0] TLs) = V0 at a0 b0 z0 ⊢
  have a1 := heap_alloc_new V0 (.cells #[.slice none 0 0] TL)
  have b1 := below_alloc1 V0 (.cells #[.slice none 0 0] TL)
  have z1 : (V0.alloc (.cells #[.slice none 0 0] TL)).heap.size = w1.heap.size + 2 := by simp [z0]
  rw [z0] at a1 b1
  generalize V0.alloc (.cells #[.slice none 0 0] TL) = V1 at a1 b1 z1 ⊢
  have m2 := MapOk.new V1
  have b2 := below_alloc1 V1 (.map #[] 0)
  have z2 : (V1.alloc (.map #[] 0)).heap.size = w1.heap.size + 3 := by simp [z1]
  rw [z1] at m2 b2
  generalize V1.alloc (.map #[] 0) = V2 at m2 b2 z2 ⊢
  have a3 := heap_alloc_new V2 (.cells #[.map (some (w1.heap.size + 2))] 120)
  have b3 := below_alloc1 V2 (.cells #[.map (some (w1.heap.size + 2))] 120)
  have z3 : (V2.alloc (.cells #[.map (some (w1.heap.size + 2))] 120)).heap.size = w1.heap.size + 4 := by simp [z2]
  rw [z2] at a3 b3
  generalize V2.alloc (.cells #[.map (some (w1.heap.size + 2))] 120) = V3 at a3 b3 z3 ⊢
  have a4 := heap_alloc_new V3 (.cells #[z] 121)
  have b4 := below_alloc1 V3 (.cells #[z] 121)
  have z4 : (V3.alloc (.cells #[z] 121)).heap.size = w1.heap.size + 5 := by simp [z3]
  rw [z3] at a4 b4
  generalize V3.alloc (.cells #[z] 121) = V4 at a4 b4 z4 ⊢
  have b5 : Below (w1.heap.size + 4) V4 (V4.setCell ⟨w1.heap.size + 4, 0, none⟩ (.func (.func 109) #[] (caps (w.heap.size + 1) w1.heap.size))) := (Below.refl (w1.heap.size + 4) V4).setCell (p := ⟨w1.heap.size + 4, 0, none⟩) (Nat.le_refl _) _
  have a5 := one_setCell (u := .func (.func 109) #[] (caps (w.heap.size + 1) w1.heap.size)) a4
  have z5 : (V4.setCell ⟨w1.heap.size + 4, 0, none⟩ (.func (.func 109) #[] (caps (w.heap.size + 1) w1.heap.size))).heap.size = w1.heap.size + 5 := by rw [← z4]; show (V4.heap.modify _ _).size = _; rw [Array.size_modify]
  generalize V4.setCell ⟨w1.heap.size + 4, 0, none⟩ (.func (.func 109) #[] (caps (w.heap.size + 1) w1.heap.size)) = V5 at a5 b5 z5 ⊢
  have all : ∀ B, B ≤ w1.heap.size → Below B w1 V5 := fun B hB => ((((b0.mono hB).trans (b1.mono (by omega))).trans (b2.mono (by omega))).trans (b3.mono (by omega))).trans ((b4.mono (by omega)).trans (b5.mono (by omega)))
  have e0 : V5.heap[w1.heap.size]? = V0.heap[w1.heap.size]? := (b5.block _ (by omega)).trans ((b4.block _ (by omega)).trans ((b3.block _ (by omega)).trans ((b2.block _ (by omega)).trans (b1.block _ (by omega)))))
  have e1 : V5.heap[w1.heap.size + 1]? = V1.heap[w1.heap.size + 1]? := (b5.block _ (by omega)).trans ((b4.block _ (by omega)).trans ((b3.block _ (by omega)).trans (b2.block _ (by omega))))
  have e2 : V5.heap[w1.heap.size + 2]? = V2.heap[w1.heap.size + 2]? := (b5.block _ (by omega)).trans ((b4.block _ (by omega)).trans (b3.block _ (by omega)))
  have e3 : V5.heap[w1.heap.size + 3]? = V3.heap[w1.heap.size + 3]? := (b5.block _ (by omega)).trans (b4.block _ (by omega))
  have eN := ((all _ (Nat.le_refl _)).block _ hsz1).trans hN
  have hws := hw1.size
  refine ⟨⟨(hT.on hw1 (Nat.le_refl _)).same ((all _ (Nat.le_refl _)).block _ (Nat.lt_of_lt_of_le hT.lt hws)), Nat.le_of_lt hT.lt, eN, e3.trans a3, a5, m2.same e2, by omega, fun j hj => ⟨by omega, by omega, by omega, by omega⟩, none, 0, [], none, 0, ?_⟩, all _ (Nat.le_refl _)⟩
  exact ⟨e0.trans a0, e1.trans a1, ⟨rfl, .inl ⟨rfl, rfl⟩⟩, ⟨rfl, .inl ⟨rfl, rfl⟩⟩, Ins.nil _ _ _ _, (fun s hs => by cases hs), (fun j _ h => by cases h), (fun j _ h => by cases h)⟩

def Two (w : World) (v : Value) (lim : Nat) (W : World) : Prop := Below w.heap.size w W ∧ Rg W w.heap.size v ∧ W.heap[w.heap.size + 1]? = some (.cells #[.int .i64 (lim : Int)] 3)
theorem Two.start (w : World) (v : Value) (lim : Nat) : Two w v lim ((w.alloc (.cells #[v] 26)).alloc (.cells #[.int .i64 (lim : Int)] 3)) := by
  have a := Rg.new w v
  have b := below_alloc1 w (.cells #[v] 26)
  have z : (w.alloc (.cells #[v] 26)).heap.size = w.heap.size + 1 := by simp
  generalize w.alloc (.cells #[v] 26) = W at a b z ⊢
  have c := heap_alloc_new W (.cells #[.int .i64 (lim : Int)] 3)
  rw [z] at c
  exact ⟨b.alloc b.size _, a.on (below_alloc1 W _), c⟩
theorem Two.on {w W W' : World} {v : Value} {lim : Nat} (h : Two w v lim W) (hb : Below W.heap.size W W') : Two w v lim W' := ⟨h.1.trans (hb.mono h.1.size), h.2.1.on hb, (hb.block _ (lt_of_block h.2.2)).trans h.2.2⟩
theorem st_box (w1 : World) (a b c d : Obj) (z : Value) : ((((w1.alloc a).alloc b).alloc c).alloc d).alloc (.cells #[z] 121) |>.heap[w1.heap.size + 4]? = some (.cells #[z] 121) := by
  have h : ((((w1.alloc a).alloc b).alloc c).alloc d).heap.size = w1.heap.size + 4 := by simp
  have := heap_alloc_new ((((w1.alloc a).alloc b).alloc c).alloc d) (.cells #[z] 121)
  rw [h] at this; exact this
theorem run_makeMap0 {w : World} : (Instr.makeMap 120 none).run Tryz.prog w = .ok (.map (some w.heap.size)) (w.alloc (.map #[] 0)) := rfl
theorem hmf (fn : Fn) (first cap : Array Value) (w : World) : (Instr.makeFunc fn first cap).run Tryz.prog w = .ok (.func fn first cap) w := rfl

set_option maxHeartbeats 4000000 in
theorem iFirstTilings (w : World) (A : Option Addr) (n cap B : Nat) (xs : List Int) (hx : xs.length = n) (hn : (n : Int) ≤ 9223372036854775807) (hrow : RowB w B A xs) (hB : B ≤ w.heap.size) (lim : Nat) (hlim : lim ≤ 1000) (hT : Tab w) :
    Calls Tryz.prog 79 #[.agg #[.slice A n cap], .int .i64 (lim : Int)] w (SSP ((allR xs).take lim) (halfR xs) w) := by
  have HOk := Lib.hid (fun W (hb : Below w.heap.size w W) => iRegionOk W A n cap B xs hx hn (hrow.below hb hB) (by have := hb.size; omega))
  have HT := Lib.hid (Two.start w (.slice A n cap) lim)
  by_cases ho : okR xs
  · have HCl := Lib.hid (fun W (hb : Below w.heap.size w W) => iCellsOf W A n cap B xs hx hn (hrow.below hb hB) (by have := hb.size; omega))
    have HUn : (unc [] (cellsR xs)).length < 2 * 33 := by have := unc_length [] (cellsR xs); have := cellsR_length xs; omega
    obtain ⟨R, hR⟩ : ∃ R, R = (allR xs).take lim := ⟨_, rfl⟩
    obtain ⟨x0, hx0⟩ : ∃ x0, x0 = setN (idxs xs) := ⟨_, rfl⟩
    obtain ⟨hf, hhf⟩ : ∃ hf, hf = halfR xs := ⟨_, rfl⟩
    have HEx : ∀ bT, ∃ Q, ∀ (K : Nat → Prop) (W : World), St K (w.heap.size + 1) bT lim hf 0 [] [] W → Calls Tryz.prog 109 #[.int .u64 (x0 : Int), .pointer (some ⟨bT, 0, none⟩), .pointer (some ⟨w.heap.size + 1, 0, none⟩), .pointer (some ⟨bT + 3, 0, none⟩), .pointer (some ⟨bT + 1, 0, none⟩), .pointer (some ⟨bT + 4, 0, none⟩)] W (Xt K (w.heap.size + 1) bT lim hf Q R [] W) := fun bT => ⟨0 + U 33, fun K W k => by
      have := iExtend xs ho (w.heap.size + 1) bT lim (halfR xs) rfl hlim 33 W K 0 (setN (idxs xs)) [] [] 0 (hhf ▸ k) (set_lt idxs_lt) (by rw [set_idxs, gM_nil]) (Beg.zero xs) (Nat.zero_le _) (fun i hi => by omega) HUn (Nat.zero_le _) (by rw [U33]; omega)
      rw [show List.take lim (([] : List (List Dm)) ++ cont xs []) = R by rw [hR, List.nil_append, cont_nil, allR_ok ho]; rfl, ← hx0, ← hhf] at this
      exact this⟩
    have HEx := Lib.hid HEx
    rw [okRB_of ho] at HOk
    have HTab := Lib.hid hT
    have hcs : cellsR xs = (idxs xs).map plc := by rw [cellsR_ok ho, idxs_cells]; rfl
    have hcl := cellsR_length xs
    have hlt := hT.lt
    have hjs : ∀ j ∈ idxs xs, j < 64 := idxs_lt
    generalize cellsR xs = C at hcs hcl HCl
    generalize idxs xs = js at hcs hx0 hjs
    obtain ⟨m, hm⟩ : ∃ m, m = C.length := ⟨_, rfl⟩
    have HCl := Lib.hid (fun W (hb : Below w.heap.size w W) => show Calls Tryz.prog 82 #[.agg #[.slice A n cap]] W (fun e w' => ∃ (A : Option Addr) (cap b off : Nat), e = .returned (.slice A m cap) ∧ Below W.heap.size W w' ∧ Hid (Calls Tryz.prog 114 #[.slice A m cap] w' (SetE x0 w'))) from (HCl.out W hb).mono (by
      rintro e w7 ⟨A1, cap1, rfl, hown7, hb7⟩
      obtain ⟨b7, off7, hA7, hR7⟩ := rowC_own hown7
      refine ⟨A1, cap1, b7, off7, by rw [hm], hb7, Lib.hid ?_⟩
      have := iSetOf w7 A1 C.length cap1 b7 off7 C js hcs hjs (by rw [hcs, List.length_map]) (by omega) (fun h0 => (hA7 h0).1) ⟨fun h0 => (hA7 h0).2, hR7⟩
      rw [← hx0, ← hm] at this
      exact this))
    have HR := Lib.hid hR
    have HH := Lib.hid hhf
    clear hx hn hrow hB hcs hcl hjs hm hx0 hR HUn ho hhf
    go_enter Tryz.func79, Tryz.ntmps79
    go_wp2_with fail
    have T0 := HT.out
    refine (HOk.out _ T0.1).mono ?_
    rintro e w1 ⟨rfl, hb1⟩
    have T1 := T0.on hb1
    clear T0 HT hb1 HOk
    have hm := hmf
    have hmm := @run_makeMap0
    go_upto_region 7 with fail
    rw [show w1.heap.size + 1 + 1 + 1 + 1 = w1.heap.size + 4 from rfl, show w1.heap.size + 1 + 1 + 1 = w1.heap.size + 3 from rfl, show w1.heap.size + 1 + 1 = w1.heap.size + 2 from rfl]
    obtain ⟨k5, b5⟩ := st_start w w1 lim hf HTab.out .nilFunc T1.1 T1.2.2
    have hbx := st_box w1 (.cells #[.slice none 0 0] TLs) (.cells #[.slice none 0 0] TL) (.map #[] 0) (.cells #[.map (some (w1.heap.size + 2))] 120) .nilFunc
    have hc4 := cell_of_one hbx
    have hf4 := free_of_one hbx
    generalize ((((w1.alloc (.cells #[.slice none 0 0] TLs)).alloc (.cells #[.slice none 0 0] TL)).alloc (.map #[] 0)).alloc (.cells #[.map (some (w1.heap.size + 2))] 120)).alloc (.cells #[.nilFunc] 121) = V4 at k5 b5 hc4 hf4 ⊢
    have T5 := T1.on b5
    clear hbx b5 hmm
    go_upto_region 8 with fail
    have hcp : (.func (.func 109) #[] #[.pointer (some ⟨w1.heap.size, 0, none⟩), .pointer (some ⟨w.heap.size + 1, 0, none⟩), .pointer (some ⟨w1.heap.size + 3, 0, none⟩), .pointer (some ⟨w1.heap.size + 1, 0, none⟩), .pointer (some ⟨w1.heap.size + 4, 0, none⟩)] : Value) = .func (.func 109) #[] (caps (w.heap.size + 1) w1.heap.size) := rfl
    rw [hcp]
    generalize V4.setCell ⟨w1.heap.size + 4, 0, none⟩ (.func (.func 109) #[] (caps (w.heap.size + 1) w1.heap.size)) = V5 at k5 T5 ⊢
    have hlo : w.heap.size ≤ w1.heap.size := T1.1.size
    obtain ⟨Q, hQ⟩ := HEx.out w1.heap.size
    have HEx5 := Lib.hid (fun W k => hQ (fun j => j ≤ w.heap.size) W k)
    clear hQ
    generalize w1.heap.size = bT at k5 HEx5 hlo ⊢
    clear T1 hc4 hf4 hcp HEx
    have k6 := k5.drew
    have T6 : Two w (.slice A n cap) lim V5.drew := ⟨T5.1.drew, T5.2⟩
    clear k5 T5
    have hs0 : V5.drew.cell? ⟨bT + 4, 0, none⟩ = some (.func (.func 109) #[] (caps (w.heap.size + 1) bT)) ∧ V5.drew.cell? ⟨w.heap.size, 0, none⟩ = some (.slice A n cap) := ⟨k6.cE, T6.2.1.c0⟩
    go_region_held3 (fun w' => w'.cell? ⟨bT + 4, 0, none⟩ = some (.func (.func 109) #[] (caps (w.heap.size + 1) bT)) ∧ w'.cell? ⟨w.heap.size, 0, none⟩ = some (.slice A n cap))
      (first
        | exact hs3
        | exact hs2
        | exact hs1
        | exact hs0
        | fail)
      (first
        | (go_at_call 82
           go_must (refine (HCl.out _ T6.1).mono ?_)
           rintro e w7 ⟨A1, cap1, b7, off7, rfl, hb7, HSt⟩
           have k7 := k6.on hb7
           have T7 := T6.on hb7
           have hs1 : w7.cell? ⟨bT + 4, 0, none⟩ = some (.func (.func 109) #[] (caps (w.heap.size + 1) bT)) ∧ w7.cell? ⟨w.heap.size, 0, none⟩ = some (.slice A n cap) := ⟨k7.cE, T7.2.1.c0⟩)
        | (go_at_call 114
           go_must (refine HSt.out.mono ?_)
           rintro e w8 ⟨rfl, hb8⟩
           have k8 := k7.on hb8
           have T8 := T7.on hb8
           have hs2 : w8.cell? ⟨bT + 4, 0, none⟩ = some (.func (.func 109) #[] (caps (w.heap.size + 1) bT)) ∧ w8.cell? ⟨w.heap.size, 0, none⟩ = some (.slice A n cap) := ⟨k8.cE, T8.2.1.c0⟩)
        | (go_at_call 109
           go_must (refine (HEx5.out _ k8).mono ?_)
           rintro e w9 ⟨rfl, k9, p9⟩
           have hs3 : w9.cell? ⟨bT + 4, 0, none⟩ = some (.func (.func 109) #[] (caps (w.heap.size + 1) bT)) ∧ w9.cell? ⟨w.heap.size, 0, none⟩ = some (.slice A n cap) := ⟨k9.cE, (World.cell?_of_block (a := ⟨w.heap.size, 0, none⟩) (p9.block _ (Nat.le_refl _))).trans T8.2.1.c0⟩)
        | fail)
    have hb9 : Below w.heap.size w w9 := T8.1.trans (p9.below (fun j hj => by show j ≤ _; omega))
    obtain ⟨Ab, capb, Sb, ALb, cLb, r9⟩ := k9.rows
    have g0 := r9.cT
    have HP := Lib.hid (show SSP ((allR xs).take lim) (halfR xs) w (.returned (.slice Ab R.length capb)) w9 by
      rw [← HR.out, ← HH.out]
      exact ⟨Ab, capb, rfl, ⟨Sb, ⟨Reg.own_base r9.oT (by omega), fun g hg => (r9.oT.lt g hg).2⟩, r9.ins.wide (by omega) (Nat.le_refl _)⟩, hb9⟩)
    clear hs0 hs1 hs2 hs3 k6 k7 k8 k9 T6 T7 T8 hb9 p9 r9
    go_wp2
    go_ret
    exact HP.out
  · have hE : allR xs = [] := allR_not ho
    have HP := Lib.hid (fun (w1 : World) (hb : Below w.heap.size w w1) => show SSP ((allR xs).take lim) (halfR xs) w (.returned (.slice none 0 0)) w1 by
      rw [hE, List.take_nil]; exact ⟨none, 0, rfl, ss_nil _ _ _ _, hb⟩)
    rw [okRB_not ho] at HOk
    clear hx hn hrow hB hE ho
    go_enter Tryz.func79, Tryz.ntmps79
    go_wp2_with fail
    have T0 := HT.out
    refine (HOk.out _ T0.1).mono ?_
    rintro e w1 ⟨rfl, hb1⟩
    have T1 := T0.on hb1
    clear T0 HT hb1 HOk
    go_wp2
    go_ret
    exact HP.out _ T1.1
end Go.Proofs.YtmajllgfmclcoaaGreatDoor.Ext
