/- FrS in one text. -/
import Derived.Test.YtjfagpmklifjlaaMf18
import Derived.Test.YtjfagpmklifjlaaMf19
import Derived.Test.YtjfagpmklifjlaaMf22
import Derived.Test.YtjfagpmklifjlaaMf24
import Derived.Test.YtjfagpmklifjlaaMf14
import Derived.Test.YtjfagpmklifjlaaMf08

namespace Go.Proofs.Ytjfagpmklifjlaa.Frd
set_option linter.unusedVariables false
set_option linter.unusedSimpArgs false
set_option maxRecDepth 100000
open Go.RowKit Go.Proofs.Ytjfagpmklifjlaa.Base Go.Proofs.Ytjfagpmklifjlaa.Pure Go.Proofs.Ytjfagpmklifjlaa.Cell Go.Proofs.Ytjfagpmklifjlaa.Cels Go.Proofs.Ytjfagpmklifjlaa.Dom Go.Proofs.Ytjfagpmklifjlaa.Dms Go.Proofs.Ytjfagpmklifjlaa.Til Go.Proofs.Ytjfagpmklifjlaa.Fr Go.Joins
open Go.Proofs.Ytjfagpmklifjlaa.Prof (withT sCountWith sCountTilings)
open Go.Proofs.Ytjfagpmklifjlaa.Cnt (tilesR)
open Go.Proofs.Ytjfagpmklifjlaa.Reg hiding Yes add_none RC rc_start

structure AS (w : World) (v : Value) (b : Nat) (ob : Option Obj) (L : List Dm) (vo : Value) (W : World) : Prop where
  bel : Below w.heap.size w W
  box : Rg W w.heap.size v
  lt : b < W.heap.size
  blk : W.heap[b]? = ob
  own : W.ownsRow (w.heap.size + 1) 41 3 vo L.length (rowM L)
  ne : ∀ g, vo.ownBlock = some g → g ≠ b
section
variable {w W W' : World} {v vo vo' : Value} {b : Nat} {ob : Option Obj} {L : List Dm} {d : Dm}
theorem AS.on (h : AS w v b ob L vo W) (hb : Below W.heap.size W W') : AS w v b ob L vo W' :=
  ⟨h.bel.trans (hb.mono h.bel.size), h.box.on hb, Nat.lt_of_lt_of_le h.lt hb.size, (hb.block b h.lt).trans h.blk, Reg.own_below h.own hb (Nat.le_refl _), h.ne⟩
theorem AS.drew (h : AS w v b ob L vo W) : AS w v b ob L vo W.drew := h.on (drewN_below (Below.refl _ _) 1)
theorem AS.snoc (h : AS w v b ob L vo W) (ho : W'.ownsRow (w.heap.size + 1) 41 3 vo' (L.length + 1) (rowM L ++ [.int .i64 d.1, .int .i64 d.2.1, .bool d.2.2])) (hg : W.grownBy W' vo.ownBlock) (hl : ∀ g, vo'.ownBlock = some g → vo.ownBlock = some g ∨ W.heap.size ≤ g) : AS w v b ob (L ++ [d]) vo' W' := by
  refine ⟨h.bel.grown hg h.bel.size (fun g e => by have := (h.own.lt g e).1; omega), (hg.block _ h.box.lt (fun e => ?_)).trans h.box, Nat.lt_of_lt_of_le h.lt hg.size, (hg.block b h.lt (fun e => h.ne b e.symm rfl)).trans h.blk, by rw [List.length_append, rowM_snoc]; exact ho, fun g e => ?_⟩
  · have := (h.own.lt _ e.symm).1; omega
  · rcases hl g e with q | q
    · exact h.ne g q
    · have := h.lt; omega
end
def SrcC (b : Nat) (ob : Option Obj) (A : Option Addr) (C : List (Int × Int)) : Prop :=
  ∃ off, (0 < C.length → A = some ⟨b, off, none⟩) ∧ ∀ W : World, W.heap[b]? = ob → ∀ j (hj : j < C.length), W.cell? ⟨b, off + j * 2, none⟩ = some (.int .i64 C[j].1) ∧ W.cell? ⟨b, off + j * 2 + 1, none⟩ = some (.int .i64 C[j].2)
def SrcM (b : Nat) (ob : Option Obj) (A : Option Addr) (L : List Dm) : Prop :=
  ∃ off, (0 < L.length → A = some ⟨b, off, none⟩) ∧ ∀ W : World, W.heap[b]? = ob → ∀ j (hj : j < L.length), W.cell? ⟨b, off + j * 3, none⟩ = some (.int .i64 L[j].1) ∧ W.cell? ⟨b, off + j * 3 + 1, none⟩ = some (.int .i64 L[j].2.1) ∧ W.cell? ⟨b, off + j * 3 + 2, none⟩ = some (.bool L[j].2.2)
theorem src_cells {W : World} {base n cap z : Nat} {A : Option Addr} {C : List (Int × Int)} (h : W.ownsRow base 38 2 (.slice A n cap) n (rowC C)) (hz : z < W.heap.size) : ∃ b ob, b < W.heap.size ∧ W.heap[b]? = ob ∧ SrcC b ob A C ∧ (b = z ∨ base ≤ b) := by
  obtain ⟨b, off, hA, hR⟩ := rowC_own h
  by_cases h0 : 0 < C.length
  · refine ⟨b, _, (hA h0).2, rfl, ⟨off, fun _ => (hA h0).1, fun W' hW j hj => ?_⟩, ?_⟩
    · obtain ⟨c0, c1⟩ := hR j _ (List.getElem?_eq_getElem hj)
      exact ⟨(World.cell?_of_block (a := ⟨b, off + j * 2, none⟩) hW).trans c0, (World.cell?_of_block (a := ⟨b, off + j * 2 + 1, none⟩) hW).trans c1⟩
    · right
      have e := (hA h0).1
      subst e
      have hn : C.length = n := by have := h.1; rw [rowC_length] at this; omega
      obtain ⟨g, c, hv, hg, _⟩ := h.form (by omega)
      injection hv with hv
      injection hv with hv
      injection hv with hv
      omega
  · exact ⟨z, _, hz, rfl, ⟨0, fun q => absurd q h0, fun _ _ j hj => absurd hj (by omega)⟩, .inl rfl⟩
theorem src_doms {W : World} {base n cap z : Nat} {A : Option Addr} {L : List Dm} (h : W.ownsRow base 41 3 (.slice A n cap) n (rowM L)) (hz : z < W.heap.size) : ∃ b ob, b < W.heap.size ∧ W.heap[b]? = ob ∧ SrcM b ob A L ∧ (b = z ∨ base ≤ b) := by
  obtain ⟨b, off, hA, hR⟩ := (rowM_own h).at
  by_cases h0 : 0 < L.length
  · refine ⟨b, _, (hA h0).2, rfl, ⟨off, fun _ => (hA h0).1, fun W' hW j hj => ?_⟩, ?_⟩
    · obtain ⟨c0, c1, c2⟩ := hR j hj
      exact ⟨(World.cell?_of_block (a := ⟨b, off + j * 3, none⟩) hW).trans c0, (World.cell?_of_block (a := ⟨b, off + j * 3 + 1, none⟩) hW).trans c1, (World.cell?_of_block (a := ⟨b, off + j * 3 + 2, none⟩) hW).trans c2⟩
    · right
      have e := (hA h0).1
      subst e
      have hn : L.length = n := by have := h.1; rw [rowM_length] at this; omega
      obtain ⟨g, c, hv, hg, _⟩ := h.form (by omega)
      injection hv with hv
      injection hv with hv
      injection hv with hv
      omega
  · exact ⟨z, _, hz, rfl, ⟨0, fun q => absurd q h0, fun _ _ j hj => absurd hj (by omega)⟩, .inl rfl⟩
theorem hasN {w : World} {A : Option Addr} {n cap B : Nat} {xs : List Int} (hx : xs.length = n) (ho : okR xs) (h : RowB w B A xs) (hB : B ≤ w.heap.size) {x y : Int} (hk : okB x y = true) :
    Calls Try.prog 51 #[.agg #[.slice A n cap], .agg #[.int .i64 x, .int .i64 y]] w (Bol (hasB xs x y) w) := by
  rw [okB_iff] at hk
  unfold Ok at hk
  obtain ⟨a, rfl⟩ : ∃ a : Nat, x = (a : Int) := ⟨x.toNat, by omega⟩
  obtain ⟨b, rfl⟩ : ∃ b : Nat, y = (b : Int) := ⟨y.toNat, by omega⟩
  have := sHas w A n cap B xs hx ho h hB a b (by omega) (by omega)
  rwa [← has_at ho (by omega) (by omega)] at this

def DmE (L : List Dm) (w : World) (e : Ending) (w' : World) : Prop :=
  ∃ A cap, e = .returned (.slice A L.length cap) ∧ w'.ownsRow w.heap.size 41 3 (.slice A L.length cap) L.length (rowM L) ∧ Below w.heap.size w w'
theorem as_start {w W : World} {v : Value} {b : Nat} {ob : Option Obj} {g : Nat} (hb : Below w.heap.size w W) (hx : Rg W w.heap.size v) (hl : b < W.heap.size) (ho : W.heap[b]? = ob) (hown : W.ownsRow (w.heap.size + 1) 41 3 (.slice (some ⟨g, 0, none⟩) 0 0) 0 []) (hne : g ≠ b) : AS w v b ob [] (.slice (some ⟨g, 0, none⟩) 0 0) W :=
  ⟨hb, hx, hl, ho, hown, fun q e => by injection e with e; rw [← e]; exact hne⟩
set_option maxHeartbeats 4000000 in
theorem sAll (w : World) (A : Option Addr) (n cap B : Nat) (xs : List Int) (hx : xs.length = n) (ho : okR xs) (h : RowB w B A xs) (hB : B ≤ w.heap.size) :
    Calls Try.prog 62 #[.agg #[.slice A n cap]] w (DmE (allD xs) w) := by
  obtain ⟨i0, hi, hz0, hz1, hz2⟩ := info_parts domInfo
  have hn : (n : Int) ≤ 9223372036854775807 := by have := ho.1; omega
  have HC := Lib.hid (fun W (hb : Below w.heap.size w W) => sCellsOf W A n cap B xs hx hn (h.below hb hB) (by have := hb.size; omega))
  have HHs := Lib.hid (fun W (hb : Below w.heap.size w W) x y (hk : okB x y = true) => hasN (cap := cap) hx ho (h.below hb hB) (by have := hb.size; omega) hk)
  have HR := Lib.hid (Rg.new w (.slice A n cap))
  have HS0 := Lib.hid (fun (o : Obj) => below_alloc1 w o)
  have HMk := Lib.hid (fun (W : World) => World.ownsRow_made (e := 41) (size := 3) W #[] 0 (Nat.le_refl _) (by unfold maxLen; omega) rfl)
  have HLn := Lib.hid (cellsR_length xs)
  have HFit := Lib.hid (show ∀ x y b, fitD xs (x, y, b) = (domB x y b && hasB xs (sx x b) (sy y b)) from fun x y b => rfl)
  have HYes := Lib.hid (fun j i (hj : j < (cellsR xs).length) (hi : i < 2) d hd (hp : fitD xs d = true) => preL_yes (fitD xs) (C := cellsR xs) (j := j) (i := i) hj hi (d := d) hd hp)
  have HNo := Lib.hid (fun j i (hj : j < (cellsR xs).length) (hi : i < 2) d hd (hp : fitD xs d = false) => preL_no (fitD xs) (C := cellsR xs) (j := j) (i := i) hj hi (d := d) hd hp)
  have HEnd := Lib.hid (show ∀ k, k = 2 * (cellsR xs).length → preL (fitD xs) (cellsR xs) k = allD xs from fun k hk => by rw [all_both]; exact preL_all _ hk)
  have HZ := Lib.hid (preL_zero (fitD xs) (cellsR xs))
  have HPl := Lib.hid (fun k => preL_len (fitD xs) (cellsR xs) k)
  unfold DmE
  generalize preL (fitD xs) (cellsR xs) = P at HYes HNo HEnd HZ HPl
  generalize fitD xs = ft at HFit HYes HNo
  generalize allD xs = F at HEnd ⊢
  generalize cellsR xs = C at HC HLn HYes HNo HEnd
  generalize hasB xs = hs at HHs HFit
  clear hx hn h hB ho
  go_enter Try.func62, Try.ntmps62
  go_wp2_with fail
  have K0 := HMk.out (w.alloc (.cells #[.slice A n cap] 26))
  rw [World.size_alloc] at K0
  have B0 : Below w.heap.size w ((w.alloc (.cells #[.slice A n cap] 26)).alloc (.cells #[] 41)) := (HS0.out _).alloc (by simp) _
  have R0 : Rg ((w.alloc (.cells #[.slice A n cap] 26)).alloc (.cells #[] 41)) w.heap.size (.slice A n cap) := (Below.heap_alloc _ _ _ (by simp)).trans HR.out
  have z0 : ((w.alloc (.cells #[.slice A n cap] 26)).alloc (.cells #[] 41)).heap.size = w.heap.size + 2 := by simp
  generalize (w.alloc (.cells #[.slice A n cap] 26)).alloc (.cells #[] 41) = W0 at K0 B0 R0 z0 ⊢
  have r0 := R0.c0
  go_wp2_with fail
  refine (HC.out _ B0).mono ?_
  rintro e w1 ⟨A1, cap1, rfl, hown1, hb1⟩
  have z1 := hb1.size
  obtain ⟨b, ob, hlb, hob, hsrc, hbz⟩ := src_cells (z := w.heap.size) hown1 (by omega)
  have HS1 := Lib.hid (as_start (B0.trans (hb1.mono B0.size)) (R0.on hb1) hlb hob (Reg.own_below K0 hb1 (Nat.le_refl _)) (by omega))
  obtain ⟨off, hA1, hR1⟩ := hsrc
  have HA1 := Lib.hid hA1
  have HRd := Lib.hid hR1
  clear HC HR HS0 HMk K0 B0 R0 r0 hown1 hb1 hR1 hA1 hlb hob hbz
  obtain ⟨N, hN⟩ : ∃ N, N = C.length := ⟨_, rfl⟩
  rw [← hN] at HLn HA1 HEnd ⊢
  have HN := Lib.hid hN
  have HP0 := Lib.hid (show AS w (.slice A n cap) b ob (P 0) (.slice (some ⟨w.heap.size + 1, 0, none⟩) 0 0) w1 from by rw [HZ.out]; exact HS1.out)
  clear hN HS1 z0 z1 HZ
  go_wp2_with fail
  go_loopg [3, 5] N (fun gg vo si wr => ∃ t : Nat, t + gg = N ∧ si = .int .i64 t ∧ Hid (AS w (.slice A n cap) b ob (P (2 * t)) vo wr))
  case atStart => exact ⟨0, by omega, rfl, HP0⟩
  case round =>
    clear HP0
    obtain ⟨t, hgg, rfl, HS⟩ := hrel
    have hN64 := HLn.out
    by_cases hlt : t < N
    · have hti : t < C.length := by rw [← HN.out]; exact hlt
      obtain rfl := HA1.out (by omega)
      have HCe := Lib.hid (fun W hW => HRd.out W hW t hti)
      have HY := Lib.hid (fun i hi d hd hp => HYes.out t i hti hi d hd hp)
      have HO := Lib.hid (fun i hi d hd hp => HNo.out t i hti hi d hd hp)
      generalize C[t] = p at HCe HY HO
      obtain ⟨x, y⟩ := p
      simp only at HCe
      have htN : (t : Int) < (N : Int) := by omega
      go_wp2_with fail
      go_loopg [3, 6] 2 (fun gi vo si wr2 => ∃ i : Nat, i + gi = 2 ∧ si = .int .i64 i ∧ Hid (AS w (.slice A n cap) b ob (P (2 * t + i)) vo wr2))
      case atStart => exact ⟨0, by omega, rfl, HS⟩
      case round =>
        clear HS
        obtain ⟨i, hgi, rfl, HS⟩ := hrel
        by_cases hi2 : i < 2
        · obtain ⟨c0, c1⟩ := HCe.out _ HS.out.blk
          have HD3 := Lib.hid (show ((i : Int) == 1) = decide (i = 1) by rw [Bool.eq_iff_iff]; simp; omega)
          have HYi := Lib.hid (fun hp => HY.out i hi2 (x, y, decide (i = 1)) rfl hp)
          have HOi := Lib.hid (fun hp => HO.out i hi2 (x, y, decide (i = 1)) rfl hp)
          obtain ⟨bb, hbb⟩ : ∃ bb, bb = decide (i = 1) := ⟨_, rfl⟩
          rw [← hbb] at HD3 HYi HOi
          clear hbb
          have hiI : (i : Int) < 2 := by omega
          have hPl := HPl.out (2 * t + i)
          go_upto_region 9 with fail
          go_region_held3 (fun w' => w'.cell? ⟨b, off + t * 2, none⟩ = some (.int .i64 x) ∧ w'.cell? ⟨b, off + t * 2 + 1, none⟩ = some (.int .i64 y))
            (first | go_keep)
            (first | fail)
          rename_i hHeld
          have T2 := (HS.out.on (below_alloc1 wr (.cells #[.int .i64 x, .int .i64 y, .bool ((i : Int) == 1)] 41))).drew
          have Z2 : At3 41 (wr.alloc (.cells #[.int .i64 x, .int .i64 y, .bool ((i : Int) == 1)] 41)).drew wr.heap.size x y ((i : Int) == 1) := At3.new 41 wr x y ((i : Int) == 1)
          rw [HD3.out] at T2 Z2 ⊢
          clear hHeld c0 c1 HS HD3
          generalize (wr.alloc (.cells #[.int .i64 x, .int .i64 y, .bool bb] 41)).drew = W2 at T2 Z2 ⊢
          generalize wr.heap.size = pd at Z2 ⊢
          have HK := Lib.hid (fun W => sSecond x y bb W)
          have HOk := Lib.hid (fun W => sDominoOk x y bb W)
          have HFt := Lib.hid (HFit.out x y bb)
          have HOk2 := Lib.hid (show domB x y bb = true → okB (sx x bb) (sy y bb) = true from fun q => by unfold domB at q; rw [Bool.and_eq_true] at q; exact q.2)
          generalize domB x y bb = pp at HOk HFt HOk2
          generalize sx x bb = u at HK HFt HOk2
          generalize sy y bb = v at HK HFt HOk2
          have HHu := Lib.hid (fun W hb (hp : pp = true) => HHs.out W hb u v (HOk2.out hp))
          generalize hs u v = ss at HHu HFt
          clear HOk2
          go_upto_region 10 with fail
          refine wp_region_noPanic ?_
          have T3 := T2.drew
          have Z3 : At3 41 W2.drew pd x y bb := Z2
          generalize hW3 : W2.drew = W3 at T3 Z3
          cases pp with
          | false =>
            refine wp_region_held_drew (S := fun w' => w'.cell? ⟨w.heap.size, 0, none⟩ = some (.slice A n cap) ∧ w'.cell? ⟨pd, 0, none⟩ = some (.int .i64 x) ∧ w'.cell? ⟨pd, 1, none⟩ = some (.int .i64 y) ∧ w'.cell? ⟨pd, 2, none⟩ = some (.bool bb)) (by kernel_rfl) (by rw [hW3]; exact ⟨T3.box.c0, Z3.c0, Z3.c1, Z3.c2⟩) (fun hHeld => ?_)
            rw [hW3] at hHeld ⊢
            clear hW3 T2 Z2
            refine wpAnyH_take (i := 0) (v := ?_) rfl (by kernel_rfl) (by kernel_rfl) (by kernel_rfl) (fun _ _ _ h => h) (Or.inl ⟨by rfl, ?_⟩) (by assumption) ?_
            rotate_left
            · (intro w' hS; (try dsimp only at hS); go_simp; try with_reducible rfl)
            try simp only [Act.put, List.getElem_toArray, List.getElem_cons_succ, List.getElem_cons_zero, List.setIfInBounds_toArray, List.set_cons_zero, List.set_cons_succ]
            refine wpAnyH_ready (rs := [1]) (by kernel_rfl) (by simp) ?_
            refine AllReadyH.cons rfl (fun K hK => ?_) AllReadyH.nil
            go_simp
            refine (HOk.out _).mono ?_
            rintro e wx ⟨rfl, hbx⟩
            have T3 := T3.on hbx
            have Z3 := Z3.on hbx
            clear hbx
            go_wp2_with fail
            refine hK.out _ _ (⟨T3.box.c0, Z3.c0, Z3.c1, Z3.c2⟩) (fun hHeld => ?_)
            clear hK K
            try simp only [Act.put, List.getElem_toArray, List.getElem_cons_succ, List.getElem_cons_zero, List.setIfInBounds_toArray, List.set_cons_zero, List.set_cons_succ]
            refine wpAnyH_take (i := 2) (v := ?_) rfl (by kernel_rfl) (by kernel_rfl) (by kernel_rfl) (fun _ _ _ h => h) (Or.inl ⟨by rfl, ?_⟩) (by assumption) ?_
            rotate_left
            · (intro w' hS; (try dsimp only at hS); go_simp; try with_reducible rfl)
            try simp only [Act.put, List.getElem_toArray, List.getElem_cons_succ, List.getElem_cons_zero, List.setIfInBounds_toArray, List.set_cons_zero, List.set_cons_succ]
            refine wpAnyH_take (i := 3) (v := undef) rfl (by kernel_rfl) (by kernel_rfl) (by kernel_rfl) (fun _ _ _ h => h) (Or.inr ⟨by rfl, rfl⟩) (by assumption) ?_
            try simp only [Act.put, List.getElem_toArray, List.getElem_cons_succ, List.getElem_cons_zero, List.setIfInBounds_toArray, List.set_cons_zero, List.set_cons_succ]
            refine wpAnyH_take (i := 4) (v := undef) rfl (by kernel_rfl) (by kernel_rfl) (by kernel_rfl) (fun _ _ _ h => h) (Or.inr ⟨by rfl, rfl⟩) (by assumption) ?_
            try simp only [Act.put, List.getElem_toArray, List.getElem_cons_succ, List.getElem_cons_zero, List.setIfInBounds_toArray, List.set_cons_zero, List.set_cons_succ]
            refine wpAnyH_take (i := 5) (v := undef) rfl (by kernel_rfl) (by kernel_rfl) (by kernel_rfl) (fun _ _ _ h => h) (Or.inr ⟨by rfl, rfl⟩) (by assumption) ?_
            try simp only [Act.put, List.getElem_toArray, List.getElem_cons_succ, List.getElem_cons_zero, List.setIfInBounds_toArray, List.set_cons_zero, List.set_cons_succ]
            refine wpAnyH_take (i := 6) (v := undef) rfl (by kernel_rfl) (by kernel_rfl) (by kernel_rfl) (fun _ _ _ h => h) (Or.inr ⟨by rfl, rfl⟩) (by assumption) ?_
            try simp only [Act.put, List.getElem_toArray, List.getElem_cons_succ, List.getElem_cons_zero, List.setIfInBounds_toArray, List.set_cons_zero, List.set_cons_succ]
            refine wpAnyH_take (i := 7) (v := ?_) rfl (by kernel_rfl) (by kernel_rfl) (by kernel_rfl) (fun _ _ _ h => h) (Or.inl ⟨by rfl, ?_⟩) (by assumption) ?_
            rotate_left
            · (intro w' hS; (try dsimp only at hS); go_simp; try with_reducible rfl)
            try simp only [Act.put, List.getElem_toArray, List.getElem_cons_succ, List.getElem_cons_zero, List.setIfInBounds_toArray, List.set_cons_zero, List.set_cons_succ]
            refine wpAnyH_done (by kernel_rfl) ?_ _
            refine NoPanic.normal ?_
            have HT4 := Lib.hid T3
            clear hHeld T3 Z3
            go_wp2
            go_roundg (2 - (i + 1))
            case measure => omega
            case rel => exact ⟨i + 1, by omega, by go_num, by rw [show 2 * t + (i + 1) = 2 * t + i + 1 from rfl, HOi.out HFt.out]; exact HT4⟩
          | true =>
            refine wp_region_held_drew (S := fun w' => w'.cell? ⟨w.heap.size, 0, none⟩ = some (.slice A n cap) ∧ w'.cell? ⟨pd, 0, none⟩ = some (.int .i64 x) ∧ w'.cell? ⟨pd, 1, none⟩ = some (.int .i64 y) ∧ w'.cell? ⟨pd, 2, none⟩ = some (.bool bb)) (by kernel_rfl) (by rw [hW3]; exact ⟨T3.box.c0, Z3.c0, Z3.c1, Z3.c2⟩) (fun hHeld => ?_)
            rw [hW3] at hHeld ⊢
            clear hW3 T2 Z2
            refine wpAnyH_take (i := 0) (v := ?_) rfl (by kernel_rfl) (by kernel_rfl) (by kernel_rfl) (fun _ _ _ h => h) (Or.inl ⟨by rfl, ?_⟩) (by assumption) ?_
            rotate_left
            · (intro w' hS; (try dsimp only at hS); go_simp; try with_reducible rfl)
            try simp only [Act.put, List.getElem_toArray, List.getElem_cons_succ, List.getElem_cons_zero, List.setIfInBounds_toArray, List.set_cons_zero, List.set_cons_succ]
            refine wpAnyH_ready (rs := [1]) (by kernel_rfl) (by simp) ?_
            refine AllReadyH.cons rfl (fun K hK => ?_) AllReadyH.nil
            go_simp
            refine (HOk.out _).mono ?_
            rintro e wx ⟨rfl, hbx⟩
            have T3 := T3.on hbx
            have Z3 := Z3.on hbx
            clear hbx
            go_wp2_with fail
            refine hK.out _ _ (⟨T3.box.c0, Z3.c0, Z3.c1, Z3.c2⟩) (fun hHeld => ?_)
            clear hK K
            try simp only [Act.put, List.getElem_toArray, List.getElem_cons_succ, List.getElem_cons_zero, List.setIfInBounds_toArray, List.set_cons_zero, List.set_cons_succ]
            refine wpAnyH_take (i := 2) (v := ?_) rfl (by kernel_rfl) (by kernel_rfl) (by kernel_rfl) (fun _ _ _ h => h) (Or.inl ⟨by rfl, ?_⟩) (by assumption) ?_
            rotate_left
            · (intro w' hS; (try dsimp only at hS); go_simp; try with_reducible rfl)
            try simp only [Act.put, List.getElem_toArray, List.getElem_cons_succ, List.getElem_cons_zero, List.setIfInBounds_toArray, List.set_cons_zero, List.set_cons_succ]
            refine wpAnyH_take (i := 3) (v := ?_) rfl (by kernel_rfl) (by kernel_rfl) (by kernel_rfl) (fun _ _ _ h => h) (Or.inl ⟨by rfl, ?_⟩) (by assumption) ?_
            rotate_left
            · (intro w' hS; (try dsimp only at hS); go_simp; try with_reducible rfl)
            try simp only [Act.put, List.getElem_toArray, List.getElem_cons_succ, List.getElem_cons_zero, List.setIfInBounds_toArray, List.set_cons_zero, List.set_cons_succ]
            refine wpAnyH_take (i := 4) (v := ?_) rfl (by kernel_rfl) (by kernel_rfl) (by kernel_rfl) (fun _ _ _ h => h) (Or.inl ⟨by rfl, ?_⟩) (by assumption) ?_
            rotate_left
            · (intro w' hS; (try dsimp only at hS); go_simp; try with_reducible rfl)
            try simp only [Act.put, List.getElem_toArray, List.getElem_cons_succ, List.getElem_cons_zero, List.setIfInBounds_toArray, List.set_cons_zero, List.set_cons_succ]
            refine wpAnyH_ready (rs := [5]) (by kernel_rfl) (by simp) ?_
            refine AllReadyH.cons rfl (fun K hK => ?_) AllReadyH.nil
            go_simp
            refine (HK.out _).mono ?_
            rintro e wx ⟨rfl, hbx⟩
            have T3 := T3.on hbx
            have Z3 := Z3.on hbx
            clear hbx
            go_wp2_with fail
            refine hK.out _ _ (⟨T3.box.c0, Z3.c0, Z3.c1, Z3.c2⟩) (fun hHeld => ?_)
            clear hK K
            try simp only [Act.put, List.getElem_toArray, List.getElem_cons_succ, List.getElem_cons_zero, List.setIfInBounds_toArray, List.set_cons_zero, List.set_cons_succ]
            refine wpAnyH_ready (rs := [6]) (by kernel_rfl) (by simp) ?_
            refine AllReadyH.cons rfl (fun K hK => ?_) AllReadyH.nil
            go_simp
            refine (HHu.out _ T3.bel trivial).mono ?_
            rintro e wx ⟨rfl, hbx⟩
            have T3 := T3.on hbx
            have Z3 := Z3.on hbx
            clear hbx
            go_wp2_with fail
            refine hK.out _ _ (⟨T3.box.c0, Z3.c0, Z3.c1, Z3.c2⟩) (fun hHeld => ?_)
            clear hK K
            try simp only [Act.put, List.getElem_toArray, List.getElem_cons_succ, List.getElem_cons_zero, List.setIfInBounds_toArray, List.set_cons_zero, List.set_cons_succ]
            refine wpAnyH_take (i := 7) (v := ?_) rfl (by kernel_rfl) (by kernel_rfl) (by kernel_rfl) (fun _ _ _ h => h) (Or.inl ⟨by rfl, ?_⟩) (by assumption) ?_
            rotate_left
            · (intro w' hS; (try dsimp only at hS); go_simp; try with_reducible rfl)
            try simp only [Act.put, List.getElem_toArray, List.getElem_cons_succ, List.getElem_cons_zero, List.setIfInBounds_toArray, List.set_cons_zero, List.set_cons_succ]
            refine wpAnyH_done (by kernel_rfl) ?_ _
            refine NoPanic.normal ?_
            have T4 := T3
            have Z4 := Z3
            clear hHeld T3 Z3
            cases ss with
            | false =>
              have HT4 := Lib.hid T4
              clear T4 Z4
              go_wp2
              go_roundg (2 - (i + 1))
              case measure => omega
              case rel => exact ⟨i + 1, by omega, by go_num, by rw [show 2 * t + (i + 1) = 2 * t + i + 1 from rfl, HOi.out HFt.out]; exact HT4⟩
            | true =>
              have HPn := Lib.hid (HYi.out HFt.out)
              generalize hU : P (2 * t + i) = U at T4 HPn hPl
              have d0 := Z4.c0
              have d1 := Z4.c1
              have d2 := Z4.c2
              clear hU
              go_wp2_with (first
                | (at_builtin
                   go_must (refine wpList_append_lies _ rfl _ _ 28 rfl (w.heap.size + 1) 41 i0 (.agg #[.int .i64 0, .int .i64 0, .bool false]) 3 24 Try.underlying28 hi hz0 hz1 hz2 rfl (by decide) _ U.length (rowM U) rfl (T4.own.alloc _) ⟨wx.heap.size, 0, none⟩ 1 1 [.int .i64 x, .int .i64 y, .bool bb] rfl rfl (World.news_of_block (cs := #[.int .i64 x, .int .i64 y, .bool bb]) (t := 41) (fr := (0, 0)) (heap_alloc_new wx _)) (by simp [Value.oneCell']) (by decide) (by unfold maxLen; omega) (by omega) (by have := T4.box.lt; simp; omega) (wx.heap.size + 1) (by simp) ?_)
                   intro g7 c7 w7 hown7 hgrow7 hat7 _))
              have HT7 := Lib.hid ((T4.on (below_alloc1 wx (.cells #[.int .i64 x, .int .i64 y, .bool bb] 41))).snoc (d := (x, y, bb)) hown7 hgrow7 (fun g e => by
                injection e with e
                subst e
                rcases hat7 with q | q
                · exact .inl q
                · right; rw [q, World.size_alloc]; exact Nat.le_refl _))
              clear hown7 hgrow7 hat7 T4 Z4 d0 d1 d2
              go_wp2
              go_roundg (2 - (i + 1))
              case measure => omega
              case rel => exact ⟨i + 1, by omega, by go_num, by rw [show 2 * t + (i + 1) = 2 * t + i + 1 from rfl, HPn.out]; exact HT7⟩
        · obtain rfl : 2 = i := by omega
          go_wp2
          go_roundg (N - (t + 1))
          case measure => omega
          case rel => exact ⟨t + 1, by omega, by go_num, HS⟩
    · obtain rfl : N = t := by omega
      have hown := HS.out.own
      obtain ⟨A2, c2, rfl⟩ := own_shape hown
      have HO2 := Lib.hid (Reg.own_base hown (Nat.le_succ _))
      have HB2 := HS.out.bel
      rw [HEnd.out _ rfl] at HO2 ⊢
      clear hown HS
      go_wp2
      go_ret
      exact ⟨A2, c2, rfl, HO2.out, HB2⟩
end Go.Proofs.Ytjfagpmklifjlaa.Frd
