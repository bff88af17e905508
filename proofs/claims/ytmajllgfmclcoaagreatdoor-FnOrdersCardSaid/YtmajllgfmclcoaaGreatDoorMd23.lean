/- ExW, ExP in one text. -/
import Derived.Test.YtmajllgfmclcoaaGreatDoorMd22
import Derived.Deep.RegionHeld3
import Derived.Deep.DeepMust
import Derived.Test.YtmajllgfmclcoaaGreatDoorMd00
set_option linter.unusedVariables false
set_option linter.unusedSimpArgs false
set_option maxRecDepth 100000
namespace Go.Proofs.YtmajllgfmclcoaaGreatDoor.Ext
open Go.RowKit Go.Proofs.YtmajllgfmclcoaaGreatDoor.Pure Go.Proofs.YtmajllgfmclcoaaGreatDoor.Cell Dms Til Dss Lis Sets Go.Joins
open Cnt (gR tiles gR_in gR_out)
open Reg hiding add_none
theorem dssInfo : (Tryz.prog.info? 27).map (fun i => (i.zero, i.size, i.bytes)) = some (some (.slice none 0 0), 1, 24) := by kernel_rfl
theorem atBit {t : Nat} (ht : t < 2) (w : World) : (Instr.index 125 (.agg #[.bool false, .bool true]) (.int .i64 (t : Int))).run Tryz.prog w = .ok (.bool (decide (t = 1))) w := by
  have h0 : (Instr.index 125 (.agg #[.bool false, .bool true]) (.int .i64 0)).run Tryz.prog w = .ok (.bool false) w := by kernel_rfl
  have h1 : (Instr.index 125 (.agg #[.bool false, .bool true]) (.int .i64 1)).run Tryz.prog w = .ok (.bool true) w := by kernel_rfl
  obtain rfl | rfl : t = 0 ∨ t = 1 := by omega
  · exact h0
  · exact h1
def U : Nat → Nat
  | 0 => 0
  | f + 1 => 2 * U f + 1
def Xt (K : Nat → Prop) (bN bT lim h q : Nat) (Ts : List (List Dm)) (M : List Dm) (w : World) (e : Ending) (w' : World) : Prop := e = .returned (.tuple #[]) ∧ St K bN bT lim h q Ts M w' ∧ Kp K w w'
section
variable {K : Nat → Prop} {bN bT lim h q : Nat} {Ts : List (List Dm)} {M : List Dm} {W W' : World}
theorem St.cN (k : St K bN bT lim h q Ts M W) : W.cell? ⟨bN, 0, none⟩ = some (.int .i64 (lim : Int)) := cell_of_one k.kn
theorem St.cH (k : St K bN bT lim h q Ts M W) : W.cell? ⟨bT + 3, 0, none⟩ = some (.map (some (bT + 2))) := cell_of_one k.kh
theorem St.cE (k : St K bN bT lim h q Ts M W) : W.cell? ⟨bT + 4, 0, none⟩ = some (.func (.func 109) #[] (caps bN bT)) := cell_of_one k.ke
theorem St.more (k : St K bN bT lim h q Ts M W) {q' : Nat} (hq : q ≤ q') : St K bN bT lim h q' Ts M W := ⟨k.tab, k.kt, k.kn, k.kh, k.ke, k.km.mono hq, k.hn, k.ks, k.rows⟩
variable {A : Option Addr} {cap : Nat} {S : List (Option Addr × Nat)} {AL : Option Addr} {cL : Nat}
theorem Rw.cT (r : Rw K bT h Ts M W A cap S AL cL) : W.cell? ⟨bT, 0, none⟩ = some (.slice A Ts.length cap) := cell_of_one r.vT
theorem Rw.cL' (r : Rw K bT h Ts M W A cap S AL cL) : W.cell? ⟨bT + 1, 0, none⟩ = some (.slice AL M.length cL) := cell_of_one r.vL
theorem Rw.fL (r : Rw K bT h Ts M W A cap S AL cL) : W.frozen? ⟨bT + 1, 0, none⟩ = false := free_of_one r.vL
theorem Rw.drew (r : Rw K bT h Ts M W A cap S AL cL) : Rw K bT h Ts M W.drew A cap S AL cL := ⟨r.vT, r.vL, r.oT, r.oL, r.ins, r.dif, r.kA, r.kL⟩
theorem St.box (k : St K bN bT lim h q Ts M W) (o : Obj) : St (fun j => K j ∨ j = W.heap.size) bN bT lim h q Ts M (W.alloc o) := by
  obtain ⟨A, cap, S, AL, cL, r⟩ := k.rows
  have k2 := k.on (below_alloc1 W o)
  have r2 := r.on (below_alloc1 W o)
  have hsz : (W.alloc o).heap.size = W.heap.size + 1 := by simp
  have b1 := lt_of_block r.vT
  have b2 := lt_of_block r.vL
  have b3 := k.km.lt
  refine ⟨k2.tab, .inl k2.kt, k2.kn, k2.kh, k2.ke, k2.km, k2.hn, fun j hj => hj.elim (k2.ks j) (fun e => by subst e; exact ⟨by omega, by omega, by omega, by omega⟩), A, cap, S, AL, cL, ⟨r2.vT, r2.vL, r2.oT, r2.oL, r2.ins, r2.dif, fun j hj => hj.elim (r2.kA j) (fun e he => ?_), fun j hj => hj.elim (r2.kL j) (fun e he => ?_)⟩⟩
  · subst e; have := (row_from r.oT he).2; omega
  · subst e; have := (row_from r.oL he).2; omega
theorem far_cell {b : Nat} {v : Value} {a : Addr} (h : W.cell? ⟨b, 0, none⟩ = some v) (hb : b ≠ a.block) (u : Value) : (W.setCell a u).cell? ⟨b, 0, none⟩ = some v := (World.cell?_of_block (a := ⟨b, 0, none⟩) (Below.heap_setCell _ _ _ _ hb)).trans h
theorem row_low {e size n c : Nat} {B : Option Addr} {xs : List Value} (ho : W.ownsRow (bT + 5) e size (.slice B n c) n xs) : ∀ g, (Value.slice B n c).ownBlock = some g → bT + 5 ≤ g := fun g e => (ho.lt g e).1
theorem Rw.grown {row : Option Nat} (r : Rw K bT h Ts M W A cap S AL cL) (hlow : ∀ g, row = some g → bT + 5 ≤ g) (hg : W.grownBy W' row) : W'.cell? ⟨bT, 0, none⟩ = some (.slice A Ts.length cap) ∧ W'.frozen? ⟨bT, 0, none⟩ = false ∧ W'.cell? ⟨bT + 1, 0, none⟩ = some (.slice AL M.length cL) := by
  have h1 : W'.heap[bT]? = W.heap[bT]? := hg.block _ (lt_of_block r.vT) (fun e => by have := hlow _ e.symm; omega)
  have h2 : W'.heap[bT + 1]? = W.heap[bT + 1]? := hg.block _ (lt_of_block r.vL) (fun e => by have := hlow _ e.symm; omega)
  exact ⟨cell_of_one (h1.trans r.vT), free_of_one (h1.trans r.vT), cell_of_one (h2.trans r.vL)⟩
theorem leaf_end (k : St K bN bT lim h q Ts M W) (r : Rw K bT h Ts M W A cap S AL cL) (hMh : M.length = h) {w2 W1 : World} {A2 : Option Addr} {cap2 g6 c6 : Nat} (hb2 : Below W.drew.heap.size W.drew w2)
    (hown2 : w2.ownsRow W.drew.heap.size 63 3 (.slice A2 M.length cap2) M.length (rowM M)) (hg : (w2.alloc (.cells #[.slice A2 M.length cap2] TL)).grownBy W1 (Value.slice A Ts.length cap).ownBlock)
    (hat : (Value.slice A Ts.length cap).ownBlock = some g6 ∨ g6 = (w2.alloc (.cells #[.slice A2 M.length cap2] TL)).heap.size)
    (ho : W1.ownsRow (bT + 5) TL 1 (.slice (some ⟨g6, 0, none⟩) (Ts.length + 1) c6) (Ts.length + 1) (outs h S ++ [.slice A2 M.length cap2])) :
    Xt K bN bT lim h q (Ts ++ [M]) M W (.returned (.tuple #[])) (W1.setCell ⟨bT, 0, none⟩ (.slice (some ⟨g6, 0, none⟩) (Ts.length + 1) c6)) := by
  subst hMh
  have h5 : bT + 5 ≤ W.heap.size := by have := lt_of_block k.ke; omega
  have hb3 : Below W.drew.heap.size W.drew (w2.alloc (.cells #[.slice A2 M.length cap2] TL)) := hb2.alloc hb2.size _
  have k3 := k.drew.on hb3
  have r3 := r.drew.on hb3
  have hs : W.drew.heap.size = W.heap.size := rfl
  have hown3 := hown2.alloc (.cells #[.slice A2 M.length cap2] TL)
  rw [ownBlock_slice] at hg hat
  have hx : RowIn (w2.alloc (.cells #[.slice A2 M.length cap2] TL)) (bT + 5) (w2.alloc (.cells #[.slice A2 M.length cap2] TL)).heap.size 63 3 (.slice A2 M.length cap2) M.length (rowM M) := rowIn_new (Reg.own_base hown3 (by rw [hs]; exact h5))
  have hlo : ∀ g, blk A2 = some g → W.heap.size ≤ g := fun g e => (hown3.lt g (by rw [ownBlock_slice]; exact e)).1
  obtain ⟨k4, p4⟩ := k3.add r3 hx (fun g e1 e2 => by have := (row_from r.oL e1).2; have := hlo g e2; omega) (fun s hs' g e1 e2 => by
    obtain ⟨x, hx'⟩ := mem_ins r.ins hs'
    have := hx'.2 g (by rw [ownBlock_slice]; exact e1)
    have := hlo g e2
    omega) hg (hat.imp (fun e => e.symm) id) ho
  exact ⟨rfl, k4, ((Kp.refl K W).drew.trans (k.drew.kp hb3)).trans p4⟩
end
def ExtC (xs : List Int) (bN bT lim h f : Nat) : Prop := ∀ (W : World) (K : Nat → Prop) (q x : Nat) (Ts : List (List Dm)) (M : List Dm) (k : Nat), St K bN bT lim h q Ts M W → x < 18446744073709551616 → bt x = gM xs M → Beg xs k M → k ≤ 64 → (∀ i, i < k → gM xs M i = false) → (unc M (cellsR xs)).length < 2 * f → Ts.length ≤ lim → q + U f ≤ 1099511627776 →
    Calls Tryz.prog 109 #[.int .u64 (x : Int), .pointer (some ⟨bT, 0, none⟩), .pointer (some ⟨bN, 0, none⟩), .pointer (some ⟨bT + 3, 0, none⟩), .pointer (some ⟨bT + 1, 0, none⟩), .pointer (some ⟨bT + 4, 0, none⟩)] W (Xt K bN bT lim h (q + U f) ((Ts ++ cont xs M).take lim) M W)
def ExtL (xs : List Int) (bN bT lim h f : Nat) : Prop := ∀ (W : World) (K : Nat → Prop) (q x : Nat) (Ts : List (List Dm)) (M : List Dm) (k : Nat), St K bN bT lim h q Ts M W → x < 18446744073709551616 → bt x = gM xs M → Beg xs k M → k ≤ 64 → (∀ i, i < k → gM xs M i = false) → (unc M (cellsR xs)).length < 2 * (f + 1) → Ts.length < lim → q + U (f + 1) ≤ 1099511627776 → x ≠ 0 →
    (Instr.lookup 120 (.map (some (bT + 2))) (.int .u64 (x : Int)) false).run Tryz.prog W = .ok (.bool false) W →
    Calls Tryz.prog 109 #[.int .u64 (x : Int), .pointer (some ⟨bT, 0, none⟩), .pointer (some ⟨bN, 0, none⟩), .pointer (some ⟨bT + 3, 0, none⟩), .pointer (some ⟨bT + 1, 0, none⟩), .pointer (some ⟨bT + 4, 0, none⟩)] W (Xt K bN bT lim h (q + U (f + 1)) ((Ts ++ cont xs M).take lim) M W)
set_option maxHeartbeats 4000000 in
theorem ext_leaf (xs : List Int) (ho : okR xs) (bN bT lim h : Nat) (hh : h = (cellsR xs).length / 2) (hlim : lim ≤ 1000) (f : Nat) (HLoop : Hid (ExtL xs bN bT lim h f)) : ExtC xs bN bT lim h (f + 1) := by
  intro W K q x Ts M k hst hx hbt hbg hk64 hk0 hf hTl hq
  have HS := Lh hst
  have hM32 : M.length ≤ 32 := by
    have := part_length (part_yes (okRB_of ho) hbg.1)
    omega
  by_cases hl : Ts.length = lim
  · have HE := Lh (show (Ts ++ cont xs M).take lim = Ts by rw [← hl]; simp)
    rw [HE.out]
    have HP := Lh (show Xt K bN bT lim h (q + U (f + 1)) Ts M W (.returned (.tuple #[])) W from ⟨rfl, hst.more (Nat.le_add_right _ _), Kp.refl _ _⟩)
    obtain ⟨A, cap, S, AL, cL, r⟩ := hst.rows
    have c0 := r.cT
    have c1 := hst.cN
    have he : ((Ts.length : Int) == (lim : Int)) = true := by simp [hl]
    clear hst hbt hbg hk0 hf hTl hq HLoop hk64 HE r hl hh hx
    go_enter Tryz.func109, Tryz.ntmps109
    go_wp2
    exact bodyPost_ret (v := .tuple #[]) (by simp [results, Tryz.results109, go_sem]) rfl HP.out
  · have hlt : Ts.length < lim := by omega
    obtain ⟨hr, hrun, hr0⟩ := hst.km.look hx
    have HCut := Lh (show LsG (bt x) = [] → cont xs M = [] from fun e => by unfold cont; rw [← hbt, e]; rfl)
    cases hr with
    | true =>
      have HE := Lh (show (Ts ++ cont xs M).take lim = Ts by rw [HCut.out (hr0 rfl), List.append_nil, List.take_of_length_le hTl])
      rw [HE.out]
      have HP := Lh (show Xt K bN bT lim h (q + U (f + 1)) Ts M W (.returned (.tuple #[])) W from ⟨rfl, hst.more (Nat.le_add_right _ _), Kp.refl _ _⟩)
      obtain ⟨A, cap, S, AL, cL, r⟩ := hst.rows
      have c0 := r.cT
      have c1 := hst.cN
      have c2 := hst.cH
      have he : ((Ts.length : Int) == (lim : Int)) = false := by simp; omega
      clear hst hbt hbg hk0 hf hTl hq HLoop hk64 HE r hl hlt hr0 HCut hh hx
      go_enter Tryz.func109, Tryz.ntmps109
      go_wp2
      exact bodyPost_ret (v := .tuple #[]) (by simp [results, Tryz.results109, go_sem]) rfl HP.out
    | false =>
      by_cases hx0 : x = 0
      · have hun : (unc M (cellsR xs)).length = 0 := by
          rw [unc_cells ho, List.length_map, List.length_eq_zero_iff, List.filter_eq_nil_iff]
          intro j hj
          rw [← hbt, hx0, bt_zero]; simp
        have hcd := cont_done ho hun
        have hMh : M.length = h := by
          rw [hh]
          exact cont_half ho hbg hk64 hk0 M (by rw [hcd]; simp)
        have HE := Lh (show (Ts ++ cont xs M).take lim = Ts ++ [M] by rw [hcd, List.take_of_length_le (by rw [List.length_append, List.length_singleton]; omega)])
        rw [HE.out]
        obtain ⟨j0, hj, hy0, hy1, hy2⟩ := info_parts dssInfo
        obtain ⟨A, cap, S, AL, cL, r⟩ := hst.rows
        have c0 := r.cT
        have c1 := hst.cN
        have c2 := hst.cH
        have he : ((Ts.length : Int) == (lim : Int)) = false := by simp; omega
        have hx1 : ((x : Int) == 0) = true := by simp [hx0]
        have HC := Lh (fun (W' : World) (hb : Below W.heap.size W W') => iClone W' AL M.length cL (bT + 5) M (by omega) (r.on hb).oL)
        have HR := Lh r
        have HMh := Lh hMh
        have hTs : Ts.length ≤ 1000 := by omega
        have hbT := lt_of_block r.vT
        have h5 : bT + 5 ≤ W.heap.size := by have := lt_of_block hst.ke; omega
        have HLn : M.length ≤ 1000 := by omega
        clear hst hbt hbg hk0 hf hTl hq HLoop hk64 HE r hl hlt hr0 HCut hh hx hun hcd hMh ho hlim hx0 hM32
        go_enter Tryz.func109, Tryz.ntmps109
        go_upto_region 2 with fail
--R2--
        refine wp_region_noPanic ?_
        refine wp_region_held_drew (S := (fun w' => w'.cell? ⟨bT + 1, 0, none⟩ = some (.slice AL M.length cL))) (by kernel_rfl) (HR.out.drew.cL') (fun hHeld => ?_)
        refine tk 1 ?_; try simp only [Act.put, zk]
        refine wpAnyH_ready (rs := [0, 2]) (by kernel_rfl) (by simp) ?_
        refine AllReadyH.cons rfl (fun K hK => ?_) (AllReadyH.cons rfl (fun K hK => ?_) (AllReadyH.nil))
        · have cX := HR.out.drew.cT
          go_simp
          refine hK.out _ _ HR.out.drew.cL' (fun hHeld => ?_)
          clear cX
          clear hK K
          try simp only [Act.put, zk]
          refine tr 2 fun K hK => ?_
          · go_simp
            refine (HC.out _ ((Below.refl _ _).drew)).mono ?_
            rintro e w2 ⟨A2, cap2, rfl, hown2, hb2⟩
            have R2 := HR.out.drew.on hb2
            go_wp2_with fail
            refine hK.out _ _ R2.cL' (fun hHeld => ?_)
            clear hK K
            try simp only [Act.put, zk]
            refine tr 3 fun K hK => ?_
            · have R3 := R2.on (below_alloc1 w2 (.cells #[.slice A2 M.length cap2] TL))
              go_simp
              refine hK.out _ _ R3.cL' (fun hHeld => ?_)
              clear hK K
              try simp only [Act.put, zk]
              refine tr 4 fun K hK => ?_
              · refine step_append_lies _ (by rfl) _ _ 58 (by rfl) (bT + 5) TL j0 (.slice none 0 0) 1 24 Tryz.underlying58 hj hy0 hy1 hy2 rfl (by decide) (.slice A Ts.length cap) Ts.length (outs h S) (by rfl) R3.oT ⟨w2.heap.size, 0, none⟩ 1 1 [.slice A2 M.length cap2] (by rfl) rfl (World.news_of_block (cs := #[.slice A2 M.length cap2]) (t := TL) (fr := (0, 0)) (heap_alloc_new w2 _)) (by simp [Value.oneCell']) (by omega) (by unfold maxLen; omega) (by omega) (by have := hb2.size; have h6 : W.drew.heap.size = W.heap.size := rfl; simp; omega) _ rfl ?_
                intro g6 c6 w6 hown6 hg6 hat6 hlt6
                obtain ⟨t0, t1, t2⟩ := R3.grown (row_low R3.oT) hg6
                refine hK.out _ _ t2 (fun hHeld => ?_)
                clear hK K
                try simp only [Act.put, zk]
                refine tr 5 fun K hK => ?_
                · go_simp
                  refine hK.out _ _ (far_cell t2 (by show bT + 1 ≠ bT; omega) _) (fun hHeld => ?_)
                  clear hK K
                  try simp only [Act.put, zk]
                  refine wpAnyH_done (by kernel_rfl) (NoPanic.normal ?_) _
                  have HX := Lh (leaf_end (q := q + U (f + 1)) (HS.out.more (Nat.le_add_right _ _)) HR.out HMh.out hb2 hown2 hg6 hat6 hown6)
                  clear hown2 hown6 hg6 hat6 R2 R3 hb2
                  go_wp2
                  exact bodyPost_ret (v := .tuple #[]) (by simp [results, Tryz.results109, go_sem]) rfl HX.out
        · go_simp
          refine (HC.out _ ((Below.refl _ _).drew)).mono ?_
          rintro e w2 ⟨A2, cap2, rfl, hown2, hb2⟩
          have R2 := HR.out.drew.on hb2
          go_wp2_with fail
          refine hK.out _ _ R2.cL' (fun hHeld => ?_)
          clear hK K
          try simp only [Act.put, zk]
          refine wpAnyH_ready (rs := [0, 3]) (by kernel_rfl) (by simp) ?_
          refine AllReadyH.cons rfl (fun K hK => ?_) (AllReadyH.cons rfl (fun K hK => ?_) (AllReadyH.nil))
          · have cX := R2.cT
            go_simp
            refine hK.out _ _ R2.cL' (fun hHeld => ?_)
            clear cX
            clear hK K
            try simp only [Act.put, zk]
            refine tr 3 fun K hK => ?_
            · have R3 := R2.on (below_alloc1 w2 (.cells #[.slice A2 M.length cap2] TL))
              go_simp
              refine hK.out _ _ R3.cL' (fun hHeld => ?_)
              clear hK K
              try simp only [Act.put, zk]
              refine tr 4 fun K hK => ?_
              · refine step_append_lies _ (by rfl) _ _ 58 (by rfl) (bT + 5) TL j0 (.slice none 0 0) 1 24 Tryz.underlying58 hj hy0 hy1 hy2 rfl (by decide) (.slice A Ts.length cap) Ts.length (outs h S) (by rfl) R3.oT ⟨w2.heap.size, 0, none⟩ 1 1 [.slice A2 M.length cap2] (by rfl) rfl (World.news_of_block (cs := #[.slice A2 M.length cap2]) (t := TL) (fr := (0, 0)) (heap_alloc_new w2 _)) (by simp [Value.oneCell']) (by omega) (by unfold maxLen; omega) (by omega) (by have := hb2.size; have h6 : W.drew.heap.size = W.heap.size := rfl; simp; omega) _ rfl ?_
                intro g6 c6 w6 hown6 hg6 hat6 hlt6
                obtain ⟨t0, t1, t2⟩ := R3.grown (row_low R3.oT) hg6
                refine hK.out _ _ t2 (fun hHeld => ?_)
                clear hK K
                try simp only [Act.put, zk]
                refine tr 5 fun K hK => ?_
                · go_simp
                  refine hK.out _ _ (far_cell t2 (by show bT + 1 ≠ bT; omega) _) (fun hHeld => ?_)
                  clear hK K
                  try simp only [Act.put, zk]
                  refine wpAnyH_done (by kernel_rfl) (NoPanic.normal ?_) _
                  have HX := Lh (leaf_end (q := q + U (f + 1)) (HS.out.more (Nat.le_add_right _ _)) HR.out HMh.out hb2 hown2 hg6 hat6 hown6)
                  clear hown2 hown6 hg6 hat6 R2 R3 hb2
                  go_wp2
                  exact bodyPost_ret (v := .tuple #[]) (by simp [results, Tryz.results109, go_sem]) rfl HX.out
          · have R3 := R2.on (below_alloc1 w2 (.cells #[.slice A2 M.length cap2] TL))
            go_simp
            refine hK.out _ _ R3.cL' (fun hHeld => ?_)
            clear hK K
            try simp only [Act.put, zk]
            refine tr 0 fun K hK => ?_
            · have cX := R3.cT
              go_simp
              refine hK.out _ _ R3.cL' (fun hHeld => ?_)
              clear cX
              clear hK K
              try simp only [Act.put, zk]
              refine tr 4 fun K hK => ?_
              · refine step_append_lies _ (by rfl) _ _ 58 (by rfl) (bT + 5) TL j0 (.slice none 0 0) 1 24 Tryz.underlying58 hj hy0 hy1 hy2 rfl (by decide) (.slice A Ts.length cap) Ts.length (outs h S) (by rfl) R3.oT ⟨w2.heap.size, 0, none⟩ 1 1 [.slice A2 M.length cap2] (by rfl) rfl (World.news_of_block (cs := #[.slice A2 M.length cap2]) (t := TL) (fr := (0, 0)) (heap_alloc_new w2 _)) (by simp [Value.oneCell']) (by omega) (by unfold maxLen; omega) (by omega) (by have := hb2.size; have h6 : W.drew.heap.size = W.heap.size := rfl; simp; omega) _ rfl ?_
                intro g6 c6 w6 hown6 hg6 hat6 hlt6
                obtain ⟨t0, t1, t2⟩ := R3.grown (row_low R3.oT) hg6
                refine hK.out _ _ t2 (fun hHeld => ?_)
                clear hK K
                try simp only [Act.put, zk]
                refine tr 5 fun K hK => ?_
                · go_simp
                  refine hK.out _ _ (far_cell t2 (by show bT + 1 ≠ bT; omega) _) (fun hHeld => ?_)
                  clear hK K
                  try simp only [Act.put, zk]
                  refine wpAnyH_done (by kernel_rfl) (NoPanic.normal ?_) _
                  have HX := Lh (leaf_end (q := q + U (f + 1)) (HS.out.more (Nat.le_add_right _ _)) HR.out HMh.out hb2 hown2 hg6 hat6 hown6)
                  clear hown2 hown6 hg6 hat6 R2 R3 hb2
                  go_wp2
                  exact bodyPost_ret (v := .tuple #[]) (by simp [results, Tryz.results109, go_sem]) rfl HX.out
--R2 END--
      · exact HLoop.out W K q x Ts M k hst hx hbt hbg hk64 hk0 hf hlt hq hx0 hrun
end Go.Proofs.YtmajllgfmclcoaaGreatDoor.Ext
namespace Go.Proofs.YtmajllgfmclcoaaGreatDoor.Ext
open Go.RowKit Go.Proofs.YtmajllgfmclcoaaGreatDoor.Cell Dom Dms Til Lis Sets Go.Joins
open Cnt (gR tiles gR_in gR_out)
open Reg hiding add_none
theorem take_grow {α : Type} (A B : List α) (n : Nat) : (A.take n ++ B).take n = (A ++ B).take n := by
 rw [List.take_append, List.take_append, List.take_take, Nat.min_self, List.length_take]
 congr 2
 omega
theorem pre_grow {xs : List Int} {M : List Dm} {c t lim : Nat} {Ts : List (List Dm)} (ht : t < 2) : ((Ts ++ pre xs M c t).take lim ++ one xs M c (decide (t = 1))).take lim = (Ts ++ pre xs M c (t + 1)).take lim := by
 rw [take_grow, pre_step ht, List.append_assoc]
theorem has_can {xs : List Int} {M : List Dm} {x c : Nat} (hbt : bt x = gM xs M) (hc : c < 64) (b : Bool) : hasS x (sx (plc c).1 b) (sy (plc c).2 b) = canB xs M c b := by
 unfold hasS
 rw [Bool.eq_iff_iff, Bool.and_eq_true, okB_iff]
 have key : oth c b < 64 → (b = false → c % 8 ≠ 7) → sx (plc c).1 b = (plc (oth c b)).1 ∧ sy (plc c).2 b = (plc (oth c b)).2 := fun h1 h2 => by
  obtain ⟨_, o2, o3⟩ := oth_ok h1 h2
  exact ⟨o2, o3⟩
 have hidx : ∀ k, k < 64 → ((plc k).2 * 8 + (plc k).1).toNat = k := fun k hk => by unfold plc; simp only; omega
 constructor
 ·rintro ⟨h1, h2⟩
  have hk : oth c b < 64 ∧ (b = false → c % 8 ≠ 7) := by
   unfold Ok plc at h1
   cases b
   ·simp only [sx, sy, Bool.false_eq_true, if_false] at h1
    unfold wrap64 at h1
    unfold oth
    simp only [Bool.false_eq_true, if_false]
    exact ⟨by omega, fun _ => by omega⟩
   ·simp only [sx, sy, if_true] at h1
    unfold wrap64 at h1
    unfold oth
    simp only [if_true]
    exact ⟨by omega, fun q => by cases q⟩
  obtain ⟨e1, e2⟩ := key hk.1 hk.2
  rw [e1, e2, hidx _ hk.1, hbt] at h2
  unfold canB
  rw [h2, Bool.and_true]
  cases b
  ·simpa using hk.2 rfl
  ·rfl
 ·intro h
  obtain ⟨h1, h2, h3⟩ := can_lt h
  obtain ⟨e1, e2⟩ := key h1 h2
  rw [e1, e2, hidx _ h1, hbt]
  exact ⟨ok_plc h1, h3⟩
def without (x c e : Nat) : Nat := x &&& (18446744073709551615 - (2 ^ c ||| 2 ^ e))
theorem without_bt {xs : List Int} {M : List Dm} {x c : Nat} {b : Bool} (hx : x < 18446744073709551616) (hbt : bt x = gM xs M) (hc : c < 64) (h : canB xs M c b = true) : bt (without x c (oth c b)) = gM xs (M ++ [dmN c b]) := by
 obtain ⟨h1, h2, h3⟩ := can_lt h
 rw [gM_snoc h1 h2]
 funext i
 unfold without
 rw [bt_minus hx (or_lt (one_lt hc) (one_lt h1)), bt_or, bt_one, bt_one, hbt]
 unfold Cnt.rem
 by_cases e1 : c = i
 ·subst e1; simp
 ·by_cases e2 : oth c b = i
  ·subst e2; simp
  ·have e3 : ¬ i = c := fun q => e1 q.symm
   have e4 : ¬ i = oth c b := fun q => e2 q.symm
   simp [e1, e2, e3, e4]
theorem two_cells (W : World) (x y u v : Int) : RdC (W.alloc (.cells #[.int .i64 x, .int .i64 y, .int .i64 u, .int .i64 v] 79)) W.heap.size 0 [(x, y), (u, v)] := by
 have hb := heap_alloc_new W (.cells #[.int .i64 x, .int .i64 y, .int .i64 u, .int .i64 v] 79)
 refine ⟨fun _ => (Array.getElem?_eq_some_iff.1 hb).1, fun j p hp => ?_⟩
 match j, hp with
 | 0, hp => simp at hp; subst hp; exact ⟨(cell_of_row _ _ 0 _ _ _ hb).trans rfl, (cell_of_row _ _ 1 _ _ _ hb).trans rfl⟩
 | 1, hp => simp at hp; subst hp; exact ⟨(cell_of_row _ _ 2 _ _ _ hb).trans rfl, (cell_of_row _ _ 3 _ _ _ hb).trans rfl⟩
 | j + 2, hp => simp at hp
theorem set_two (c e : Nat) : setN [c, e] = 2 ^ c ||| 2 ^ e := by unfold setN; simp
section
variable {K : Nat → Prop} {bT h : Nat} {Ts : List (List Dm)} {M : List Dm} {W W' : World} {A : Option Addr} {cap : Nat} {S : List (Option Addr × Nat)} {AL : Option Addr} {cL : Nat}
theorem Rw.grownL {row : Option Nat} (r : Rw K bT h Ts M W A cap S AL cL) (hlow : ∀ g, row = some g → bT + 5 ≤ g) (hg : W.grownBy W' row) : W'.cell? ⟨bT + 1, 0, none⟩ = some (.slice AL M.length cL) ∧ W'.frozen? ⟨bT + 1, 0, none⟩ = false := by
 have h2 : W'.heap[bT + 1]? = W.heap[bT + 1]? := hg.block _ (lt_of_block r.vL) (fun e => by have := hlow _ e.symm; omega)
 exact ⟨cell_of_one (h2.trans r.vL), free_of_one (h2.trans r.vL)⟩
theorem Rw.last {d : Dm} (r : Rw K bT h Ts (M ++ [d]) W A cap S AL cL) : ∃ g, AL = some ⟨g, 0, none⟩ ∧ M.length + 1 ≤ cL ∧ (cL : Int) ≤ 9223372036854775807 := by
 rcases r.oL.2 with ⟨_, q⟩ | ⟨g, cap, cur, hv, _, _, hn, hm, _⟩
 ·simp at q
 ·injection hv with h1 h2 h3
  subst h3
  rw [List.length_append, List.length_singleton] at hn
  unfold maxLen at hm
  exact ⟨g, h1, hn, by omega⟩
end
end Go.Proofs.YtmajllgfmclcoaaGreatDoor.Ext
