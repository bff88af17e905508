/- FirstTiling, the model's: a domino to the right if the rest can then be tiled, else one down. -/
import Derived.Test.YtmaghekcpopepaaDoorFirP
namespace Go.Proofs.YtmaghekcpopepaaDoor.Lst
set_option linter.unusedVariables false
set_option linter.unusedSimpArgs false
set_option maxRecDepth 100000
open Go.RowKit Go.Proofs.YtmaghekcpopepaaDoor.Base Go.Proofs.YtmaghekcpopepaaDoor.Pure Go.Proofs.YtmaghekcpopepaaDoor.Cell Go.Proofs.YtmaghekcpopepaaDoor.Cels Go.Proofs.YtmaghekcpopepaaDoor.Dom Go.Proofs.YtmaghekcpopepaaDoor.Dms Go.Proofs.YtmaghekcpopepaaDoor.Til Go.Proofs.YtmaghekcpopepaaDoor.Grd Go.Proofs.YtmaghekcpopepaaDoor.Dss Go.Proofs.YtmaghekcpopepaaDoor.Lis Go.Proofs.YtmaghekcpopepaaDoor.Sets Go.Proofs.YtmaghekcpopepaaDoor.Ext Go.Proofs.YtmaghekcpopepaaDoor.Sam Go.Joins
open Go.Proofs.YtmaghekcpopepaaDoor.Cnt (gR tiles gR_in gR_out idxs idxs_cells tilesR tilesR_ok tilesR_not okR_with gR_two gR_with)
open Go.Proofs.YtmaghekcpopepaaDoor.Prof (withT withT_in withT_out with_len with_len2 own_some sCountWith sCountTilings)
open Go.Proofs.YtmaghekcpopepaaDoor.Reg hiding Yes add_none

/-- how many elements a slice has. -/
def lenV : Value → Nat
  | .slice _ n _ => n
  | _ => 0
/-- the state: what is left of the region, in a box p, and the dominoes laid. -/
structure FS (w : World) (p : Nat) (ys : List Int) (M : List Dm) (A : Option Addr) (c go co : Nat) (W : World) : Prop where
  bel : Below w.heap.size w W
  le : w.heap.size ≤ p
  box : Rg W p (.slice A ys.length c)
  row : RowB W W.heap.size A ys
  nil : A = none → ys.length = 0 ∧ c = 0
  sep : ∀ b off, A = some ⟨b, off, none⟩ → b ≠ p ∧ b ≠ go ∧ b < W.heap.size
  out : W.ownsRow w.heap.size 37 3 (.slice (some ⟨go, 0, none⟩) M.length co) M.length (rowM M)
section
variable {w : World} {p : Nat} {ys : List Int} {M : List Dm} {A : Option Addr} {c go co : Nat} {W W' : World}
theorem FS.on (k : FS w p ys M A c go co W) (hb : Below W.heap.size W W') : FS w p ys M A c go co W' :=
  ⟨k.bel.trans (hb.mono k.bel.size), k.le, k.box.on hb, (k.row.below hb (Nat.le_refl _)).mono hb.size, k.nil, fun b off e => ⟨(k.sep b off e).1, (k.sep b off e).2.1, Nat.lt_of_lt_of_le (k.sep b off e).2.2 hb.size⟩, Reg.own_below k.out hb (Nat.le_refl _)⟩
theorem set_size (W : World) (a : Addr) (u : Value) : (W.setCell a u).heap.size = W.heap.size := by show (W.heap.modify _ _).size = _; rw [Array.size_modify]
theorem At3.put2 {T : TypeId} {W : World} {q : Nat} {x y : Int} {b : Bool} (h : At3 T W q x y b) : At3 T (W.setCell ⟨q, 2, none⟩ (.bool true)) q x y true := by
  have h' := h
  unfold At3 at h' ⊢
  simp [World.setCell, Array.getElem?_modify, h']
theorem At3.fz {T : TypeId} {W : World} {q : Nat} {x y : Int} {b : Bool} (h : At3 T W q x y b) : W.frozen? ⟨q, 2, none⟩ = false := by have h' := h; unfold At3 at h'; simp [World.frozen?, h']
theorem row_apart {B b off : Nat} {W W' : World} (h : ∀ j x, ys[j]? = some x → W.cell? ⟨b, off + j, none⟩ = some (.int .i64 x)) (hb : W'.heap[b]? = W.heap[b]?) : ∀ j x, ys[j]? = some x → W'.cell? ⟨b, off + j, none⟩ = some (.int .i64 x) :=
  fun j x hx => (World.cell?_of_block (a := ⟨b, off + j, none⟩) hb).trans (h j x hx)
/-- another region comes into the box. -/
theorem FS.put {zs : List Int} {A' : Option Addr} {n' c' lo : Nat} (k : FS w p ys M A c go co W) (hn : zs.length = n') (h8 : n' = 8) (hlo : p < lo) (ho : W.ownsRow lo 3 1 (.slice A' n' c') n' (ints zs)) : FS w p zs M A' c' go co (W.setCell ⟨p, 0, none⟩ (.slice A' n' c')) := by
  subst hn
  have hne : (Value.slice (some ⟨go, 0, none⟩) M.length co).ownBlock ≠ some p := by
    have := row_ne_box k.out k.box (by decide)
    intro e
    injection e with e
    exact this e.symm
  have hd := dif_types ho k.out (by decide)
  refine ⟨k.bel.setCell (p := ⟨p, 0, none⟩) k.le _, k.le, one_setCell k.box, ?_, own_some ho h8, fun b off e => ?_, ownsRow_setCell_other k.out hne _⟩
  · have := rowB_own (ownsRow_setCell_below ho (a := ⟨p, 0, none⟩) (by show p < lo; exact hlo) (.slice A' zs.length c'))
    exact this
  · subst e
    have h1 := ho.lt b (by rw [ownBlock_slice]; rfl)
    rw [set_size]
    exact ⟨by omega, fun e => hd b rfl (by rw [e]; rfl), h1.2⟩
/-- a block behind all of it is written. -/
theorem FS.far {a : Addr} (k : FS w p ys M A c go co W) (h1 : p < a.block) (h2 : go < a.block) (h3 : ∀ b off, A = some ⟨b, off, none⟩ → b < a.block) (u : Value) : FS w p ys M A c go co (W.setCell a u) := by
  have hle := k.le
  refine ⟨k.bel.setCell (by omega) _, k.le, (Below.heap_setCell _ _ _ _ (by omega)).trans k.box, ?_, k.nil, fun b off e => ?_, ownsRow_setCell_other k.out (fun e => by injection e with e; have e2 : go = a.block := e; omega) _⟩
  · obtain ⟨b, off, r1, r2⟩ := k.row
    refine ⟨b, off, fun h0 => ⟨(r1 h0).1, by rw [set_size]; exact (r1 h0).2⟩, fun j x hx => ?_⟩
    have h0 : 0 < ys.length := by have := (List.getElem?_eq_some_iff.1 hx).1; omega
    have := h3 b off (r1 h0).1
    exact row_apart (B := 0) r2 (Below.heap_setCell _ _ _ _ (by omega)) j x hx
  · rw [set_size]; exact k.sep b off e
/-- a domino comes behind the others. -/
theorem FS.push {d : Dm} {go' co' : Nat} (k : FS w p ys M A c go co W) (hg : W.grownBy W' (some go)) (hat : go' = go ∨ go' = W.heap.size) (ho : W'.ownsRow w.heap.size 37 3 (.slice (some ⟨go', 0, none⟩) (M.length + 1) co') (M.length + 1) (rowM M ++ [.int .i64 d.1, .int .i64 d.2.1, .bool d.2.2])) :
    FS w p ys (M ++ [d]) A c go' co' W' := by
  have hpg := row_ne_box k.out k.box (by decide)
  have hgo := k.out.lt go rfl
  refine ⟨k.bel.grown hg k.bel.size (fun q hq => by injection hq with hq; omega), k.le, (hg.block _ k.box.lt (fun e => by injection e with e; exact hpg e)).trans k.box, ?_, k.nil, fun b off e => ?_, ?_⟩
  · obtain ⟨b, off, h1, h2⟩ := k.row
    refine ⟨b, off, fun h0 => ⟨(h1 h0).1, Nat.lt_of_lt_of_le (h1 h0).2 hg.size⟩, fun j x hx => ?_⟩
    have h0 : 0 < ys.length := by have := (List.getElem?_eq_some_iff.1 hx).1; omega
    exact row_apart (B := 0) h2 (hg.block b (h1 h0).2 (fun e => by injection e with e; exact (k.sep b off (h1 h0).1).2.1 e)) j x hx
  · obtain ⟨s1, s2, s3⟩ := k.sep b off e
    refine ⟨s1, ?_, Nat.lt_of_lt_of_le s3 hg.size⟩
    rcases hat with q | q <;> omega
  · rw [rowM_snoc, List.length_append, List.length_singleton]; exact ho
end

set_option maxHeartbeats 4000000 in
theorem sFirstTiling (w : World) (A : Option Addr) (n cap B : Nat) (xs : List Int) (hx : xs.length = n) (hn : (n : Int) ≤ 1048576) (hrow : RowB w B A xs) (hB : B ≤ w.heap.size) (hcap : A = none → n = 0 ∧ cap = 0) (hown : ∀ b off, A = some ⟨b, off, none⟩ → b < B) :
    Calls Tryd.prog 24 #[.agg #[.slice A n cap]] w (DmB (firR xs) (decide (0 < tilesR xs)) w) := by
  obtain ⟨i0, hi, hza, hzb, hzc⟩ := info_parts domInfo
  have HCt := Lib.hid (fun W (hb : Below w.heap.size w W) => sCountTilings W A n cap B xs hx (by omega) (hrow.below hb hB) (by have := hb.size; omega))
  have HR := Lib.hid (Rg.new w (.slice A n cap))
  have HS := Lib.hid (below_alloc1 w (.cells #[.slice A n cap] 26))
  have HMd := Lib.hid (fun (W : World) (h : w.heap.size ≤ W.heap.size) => World.ownsRow_made (base := w.heap.size) (e := 37) (size := 3) W #[] 0 h (by unfold maxLen; omega) rfl)
  have hcnt := allR_count xs
  by_cases hq : tilesR xs = 0
  · have hE : firR xs = [] := by unfold firR; rw [List.eq_nil_of_length_eq_zero (l := allR xs) (by omega)]; rfl
    have hqq : (tilesR xs == 0) = true := by simp [hq]
    have HP := Lib.hid (fun (w1 : World) (g : Nat) (ho : w1.ownsRow w.heap.size 37 3 (.slice (some ⟨g, 0, none⟩) 0 0) 0 []) (hb : Below w.heap.size w w1) => show DmB (firR xs) (decide (0 < tilesR xs)) w (.returned (.tuple #[.slice (some ⟨g, 0, none⟩) 0 0, .bool false])) w1 by
      rw [hE, hq]; exact ⟨_, 0, rfl, ho, hb⟩)
    obtain ⟨q, hq0⟩ : ∃ q, q = tilesR xs := ⟨_, rfl⟩
    rw [← hq0] at HCt hqq
    clear hq0
    clear hcnt hE hq hx hn hrow hB hcap hown
    go_enter Tryd.func24, Tryd.ntmps24
    go_wp2_with fail
    have R0 := HR.out
    have B0 := HS.out
    have hz0 : (w.alloc (.cells #[.slice A n cap] 26)).heap.size = w.heap.size + 1 := by simp
    generalize w.alloc (.cells #[.slice A n cap] 26) = W0 at R0 B0 hz0 ⊢
    have O1 := HMd.out W0 B0.size
    rw [hz0] at O1
    have R1 := R0.on (below_alloc1 W0 (.cells #[] 37))
    have B1 := B0.alloc B0.size (.cells #[] 37)
    go_upto_region 2 with fail
    generalize W0.alloc (.cells #[] 37) = W1 at R1 B1 O1 ⊢
    have c0 := R1.c0
    go_wp2_with fail
    refine (HCt.out _ B1).mono ?_
    rintro e w2 ⟨rfl, hb2⟩
    have O2 := Reg.own_below O1 hb2 (Nat.le_refl _)
    have B2 := B1.trans (hb2.mono B1.size)
    clear R0 B0 R1 B1 O1 hb2 HR HS HCt HMd c0
    go_wp2
    go_ret2
    exact HP.out _ _ O2 B2
  · have ho : okR xs := by
      by_cases q : okR xs
      · exact q
      · exact absurd (tilesR_not q) hq
    have hne : allT xs ≠ [] := by
      intro e
      rw [allR_ok ho, e] at hcnt
      exact hq hcnt.symm
    have hqq : (tilesR xs == 0) = false := by simp [hq]
    have HP := Lib.hid (fun (w1 : World) (g c : Nat) (M : List Dm) (he : firR xs = M) (hO : w1.ownsRow w.heap.size 37 3 (.slice (some ⟨g, 0, none⟩) M.length c) M.length (rowM M)) (hb : Below w.heap.size w w1) => show DmB (firR xs) (decide (0 < tilesR xs)) w (.returned (.tuple #[.slice (some ⟨g, 0, none⟩) M.length c, .bool true])) w1 by
      rw [he]
      exact ⟨_, c, by rw [decide_eq_true (by have := tilesR_nonneg xs; omega)], hO, hb⟩)
    have HF0 := Lib.hid (FI.start ho hne)
    have HLs := Lib.hid (fun ys M (h : FI xs ys M) hp => FI.last ho h hp)
    have HLn := Lib.hid (fun ys M (h : FI xs ys M) => FI.len ho h)
    have HStp := Lib.hid (fun ys M c b (h : FI xs ys M) hc hg hf hb => FI.step (b := b) (c := c) ho h hc hg hf hb)
    have HN := Lib.hid hx
    have HNl := Lib.hid (And.intro hcap hown)
    have HRw := Lib.hid hrow
    obtain ⟨q, hq0⟩ : ∃ q, q = tilesR xs := ⟨_, rfl⟩
    rw [← hq0] at HCt hqq
    clear hq0
    clear hcnt hq hne hx
    go_enter Tryd.func24, Tryd.ntmps24
    go_wp2_with fail
    have R0 := HR.out
    have B0 := HS.out
    have hz0 : (w.alloc (.cells #[.slice A n cap] 26)).heap.size = w.heap.size + 1 := by simp
    generalize w.alloc (.cells #[.slice A n cap] 26) = W0 at R0 B0 hz0 ⊢
    have O1 := HMd.out W0 B0.size
    rw [hz0] at O1
    have R1 := R0.on (below_alloc1 W0 (.cells #[] 37))
    have B1 := B0.alloc B0.size (.cells #[] 37)
    go_upto_region 2 with fail
    generalize W0.alloc (.cells #[] 37) = W1 at R1 B1 O1 ⊢
    have c0 := R1.c0
    go_wp2_with fail
    refine (HCt.out _ B1).mono ?_
    rintro e w2 ⟨rfl, hb2⟩
    have O2 := Reg.own_below O1 hb2 (Nat.le_refl _)
    have B2 := B1.trans (hb2.mono B1.size)
    have R2 := R1.on hb2
    have c2 := R2.c0
    have hbz := below_alloc1 w2 (.cells #[.slice A n cap] 26)
    have K0 : FS w w2.heap.size xs [] A cap (w.heap.size + 1) 0 (w2.alloc (.cells #[.slice A n cap] 26)) := ⟨B2.alloc B2.size _, B2.size, by rw [HN.out]; exact Rg.new w2 _, (HRw.out.below (B2.alloc B2.size _) hB).mono (by have := B2.size; simp; omega), by rw [HN.out]; exact HNl.out.1, fun b off e => by { have h1 := HNl.out.2 b off e; have h2 := B2.size; have h3 := hz0; simp; omega }, Reg.own_below O2 hbz (Nat.le_refl _)⟩
    clear R0 B0 R1 B1 O1 hb2 HR HS HCt HMd c0 hbz hrow hcap hown
    go_upto_region 5 with fail
    generalize w2.alloc (.cells #[.slice A n cap] 26) = W3 at K0 ⊢
    generalize w2.heap.size = p at K0 ⊢
    clear O2 B2 R2 c2 hqq
    go_loopw [4] (fun v wr => ∃ (ys : List Int) (M : List Dm) (A : Option Addr) (c go co : Nat), v = .slice (some ⟨go, 0, none⟩) M.length co ∧ FS w p ys M A c go co wr ∧ Hid (FI xs ys M) ∧ (ys.length : Int) ≤ 1048576) (fun v _ => 33 - lenV v)
    case atStart => exact ⟨xs, [], A, cap, w.heap.size + 1, 0, rfl, K0, HF0, by rw [HN.out]; exact hn⟩
    case round =>
      clear K0 HF0
      obtain ⟨ys, M, A1, c1, go, co, rfl, K1, hF, hy⟩ := hrel
      have HYs := Lib.hid (fun W (k : FS w p ys M A1 c1 go co W) => sCountCells W A1 ys.length c1 W.heap.size ys rfl (by omega) k.row (Nat.le_refl _))
      have d0 := K1.box.c0
      go_wp2_with fail
      refine (HYs.out _ K1).mono ?_
      rintro e w4 ⟨rfl, hb4⟩
      have K4 := K1.on hb4
      clear K1 hb4 HYs d0
      have hcr : countR ys = ((cellsR ys).length : Int) := rfl
      rw [hcr]
      have hcl := cellsR_length ys
      by_cases hp : 0 < (cellsR ys).length
      · obtain ⟨cc, hc64, hcg, hcf, hcc⟩ := hF.out.first hp
        have HCs := Lib.hid (fun W (k : FS w p ys M A1 c1 go co W) => sCellsOf W A1 ys.length c1 W.heap.size ys rfl (by omega) k.row (Nat.le_refl _))
        have HWt := Lib.hid (fun W (k : FS w p ys M A1 c1 go co W) => sCountWith W A1 ys.length c1 W.heap.size ys rfl hy k.row (Nat.le_refl _) k.nil (plc cc).1 (plc cc).2 false)
        have HW1 := Lib.hid (fun W (k : FS w p ys M A1 c1 go co W) => sWithCell W A1 ys.length c1 W.heap.size ys rfl hy k.row (Nat.le_refl _) k.nil (plc cc).1 (plc cc).2 false)
        obtain ⟨b, hb⟩ : ∃ b, b = decide (withT ys (plc cc).1 (plc cc).2 false = 0) := ⟨_, rfl⟩
        obtain ⟨hcan, hF2⟩ := HStp.out ys M cc b hF.out hc64 hcg hcf hb
        obtain ⟨k1, k2, _, _⟩ := lessD_is hF.out hc64 hcg hcan
        have hdm : domB (plc cc).1 (plc cc).2 b = true := (oth_ok (can_lt hcan).1 (can_lt hcan).2.1).1
        have hY1 : (withX ys (plc cc).1 (plc cc).2 false).length = 8 := (with_len k1).2.2
        have hY2 : (lessD ys cc b).length = 8 := (with_len2 k1 k2).2
        have HUd := Lib.hid (fun W => sCellsUnder_ok (plc cc).1 (plc cc).2 b hdm W)
        have hbe : (withT ys (plc cc).1 (plc cc).2 false == 0) = b := by rw [hb, Bool.eq_iff_iff, beq_iff_eq, decide_eq_true_eq]
        have HDm := Lib.hid (show ∀ b, dmN cc b = ((plc cc).1, (plc cc).2, b) from fun b => rfl)
        have HMl := Lib.hid (HLn.out _ _ hF.out)
        generalize withT ys (plc cc).1 (plc cc).2 false = q0 at HWt hbe
        clear hb hcan k1 k2 hdm hcg hcf
        have HF2 := Lib.hid hF2
        have HLd := Lib.hid (show lessD ys cc b = withX (withX ys (plc cc).1 (plc cc).2 false) (sx (plc cc).1 b) (sy (plc cc).2 b) false from rfl)
        generalize lessD ys cc b = zs at HF2 HLd hY2
        have HY1 := Lib.hid hY1
        have HY2 := Lib.hid hY2
        clear hY1 hY2
        have HCC := Lib.hid hcc
        generalize withX ys (plc cc).1 (plc cc).2 false = y1 at HW1 HLd HY1
        clear hF2 hcc hF
        obtain ⟨cx, hcx⟩ : ∃ cx, cx = (plc cc).1 := ⟨_, rfl⟩
        obtain ⟨cy, hcy⟩ : ∃ cy, cy = (plc cc).2 := ⟨_, rfl⟩
        have HCC := Lib.hid (show (cellsR ys)[0]? = some (cx, cy) by rw [HCC.out, hcx, hcy])
        rw [← hcx, ← hcy] at HWt HW1 HUd HDm HLd
        clear hcx hcy
        obtain ⟨u, hu⟩ : ∃ u, u = sx cx b := ⟨_, rfl⟩
        obtain ⟨v, hv⟩ : ∃ v, v = sy cy b := ⟨_, rfl⟩
        rw [← hu, ← hv] at HUd HLd
        clear hu hv
        generalize cellsR ys = C at HCs HCC hp hcl hcr ⊢
        clear hcr
        have hp2 : (0 : Int) < (C.length : Int) := by omega
        have d0 := K4.box.c0
        go_wp2_with fail
        refine (HCs.out _ K4).mono ?_
        rintro e w5 ⟨A5, cap5, rfl, hown5, hb5⟩
        have K5 := K4.on hb5
        obtain ⟨b5, off5, hA5, hR5⟩ := rowC_own hown5
        obtain ⟨hA5, hb5l⟩ := hA5 hp
        subst hA5
        obtain ⟨c5, c6⟩ := hR5 0 _ HCC.out
        simp only [Nat.zero_mul, Nat.add_zero] at c5 c6
        clear hown5 hb5 hR5 K4 d0 HCs HCC
        have C6 := At2.new w5 cx cy
        have K6 := K5.on (below_alloc1 w5 (.cells #[.int .i64 cx, .int .i64 cy] 68))
        have hz6 : (w5.alloc (.cells #[.int .i64 cx, .int .i64 cy] 68)).heap.size = w5.heap.size + 1 := by simp
        go_upto_region 7 with fail
        generalize w5.alloc (.cells #[.int .i64 cx, .int .i64 cy] 68) = W6 at C6 K6 hz6 ⊢
        clear c5 c6 K5
        have e0 := C6.c0
        have e1 := C6.c1
        have K7 := K6.on (below_alloc1 W6 (.cells #[.int .i64 cx, .int .i64 cy, .bool false] 37))
        have Y7 := At3.new 37 W6 cx cy false
        have hpd : p < W6.heap.size ∧ go < W6.heap.size ∧ ∀ b off, A1 = some ⟨b, off, none⟩ → b < W6.heap.size := ⟨K6.box.lt, (K6.out.lt go rfl).2, fun b off e => (K6.sep b off e).2.2⟩
        go_upto_region 8 with fail
        generalize W6.alloc (.cells #[.int .i64 cx, .int .i64 cy, .bool false] 37) = W7 at K7 Y7 ⊢
        rw [← hz6]
        generalize W6.heap.size = pd at Y7 hpd ⊢
        clear e0 e1 C6 K6 hz6
        have hpdp : p < pd := hpd.1
        have d0 := K7.box.c0
        have e0 := Y7.c0
        have e1 := Y7.c1
        have e2 := Y7.c2
        go_wp2_with fail
        refine (HWt.out _ K7).mono ?_
        rintro e w7 ⟨rfl, hb7⟩
        have K7 := K7.on hb7
        have Y7 := Y7.on hb7
        clear hb7 HWt d0 e0 e1 e2
        have d0 := K7.box.c0
        have e0 := Y7.c0
        have e1 := Y7.c1
        have e2 := Y7.c2
        cases b with
          | false =>
            have K8 := K7
            have Y8 := Y7
            go_upto_region 10 with fail
            generalize w7 = W8 at K8 Y8 ⊢
            clear K7 Y7 d0 e0 e1 e2
            have e0 := Y8.c0
            have e1 := Y8.c1
            have e2 := Y8.c2
            go_wp2_with fail
            refine (HUd.out _).mono ?_
            rintro e w9 ⟨rfl, hb9⟩
            have K9 := K8.on hb9
            have Y9 := Y8.on hb9
            have A9 := At2.new w9 cx cy
            have K10 := (K9.on (below_alloc1 w9 (.cells #[.int .i64 cx, .int .i64 cy] 68))).on (below_alloc1 (w9.alloc (.cells #[.int .i64 cx, .int .i64 cy] 68)) (.cells #[.int .i64 u, .int .i64 v] 68))
            have Y10 := (Y9.on (below_alloc1 w9 (.cells #[.int .i64 cx, .int .i64 cy] 68))).on (below_alloc1 (w9.alloc (.cells #[.int .i64 cx, .int .i64 cy] 68)) (.cells #[.int .i64 u, .int .i64 v] 68))
            have A10 := A9.on (below_alloc1 (w9.alloc (.cells #[.int .i64 cx, .int .i64 cy] 68)) (.cells #[.int .i64 u, .int .i64 v] 68))
            have B10 := At2.new (w9.alloc (.cells #[.int .i64 cx, .int .i64 cy] 68)) u v
            have hz9 : (w9.alloc (.cells #[.int .i64 cx, .int .i64 cy] 68)).heap.size = w9.heap.size + 1 := by simp
            rw [hz9] at B10
            have hp9 := K9.box.lt
            clear K8 Y8 K9 Y9 A9 hb9 e0 e1 e2 hz9 HUd
            go_upto_region 11 with fail
            generalize (w9.alloc (.cells #[.int .i64 cx, .int .i64 cy] 68)).alloc (.cells #[.int .i64 u, .int .i64 v] 68) = W10 at K10 Y10 A10 B10 ⊢
            have hpb : p ≠ w9.heap.size + 1 := by omega
            generalize w9.heap.size + 1 = pb at B10 hpb ⊢
            generalize w9.heap.size = pa at A10 ⊢
            have d0 := K10.box.c0
            have e0 := A10.c0
            have e1 := A10.c1
            go_wp2_with fail
            refine (HW1.out _ K10).mono ?_
            rintro e w11 ⟨A11, c11, rfl, hown11, hb11⟩
            have K11 := K10.on hb11
            have Y11 := Y10.on hb11
            have B11 := B10.on hb11
            have hpl := K10.box.lt
            have K12 := K11.put (zs := y1) (n' := y1.length) rfl HY1.out hpl hown11
            have Y12 : At3 37 (w11.setCell ⟨p, 0, none⟩ (.slice A11 y1.length c11)) pd cx cy false := (Below.heap_setCell _ _ _ _ (by show pd ≠ p; omega)).trans Y11
            have B12 : At2 (w11.setCell ⟨p, 0, none⟩ (.slice A11 y1.length c11)) pb u v := (Below.heap_setCell _ _ _ _ (by show pb ≠ p; omega)).trans B11
            have g0 := K11.box.c0
            have g1 := free_of_one K11.box
            clear K10 Y10 A10 B10 K11 Y11 B11 hown11 hb11 d0 e0 e1 HW1
            go_upto_region 12 with fail
            generalize w11.setCell ⟨p, 0, none⟩ (.slice A11 y1.length c11) = W12 at K12 Y12 B12 ⊢
            have d0 := K12.box.c0
            have e0 := B12.c0
            have e1 := B12.c1
            have HW2 := Lib.hid (sWithCell W12 A11 y1.length c11 W12.heap.size y1 rfl (by rw [HY1.out]; omega) K12.row (Nat.le_refl _) K12.nil u v false)
            rw [← HLd.out] at HW2
            clear g0 g1
            go_wp2_with fail
            refine HW2.out.mono ?_
            rintro e w13 ⟨A13, c13, rfl, hown13, hb13⟩
            have K13 := K12.on hb13
            have Y13 := Y12.on hb13
            have hpl2 := K12.box.lt
            have K14 := K13.put (zs := zs) (n' := zs.length) rfl HY2.out hpl2 hown13
            have Y14 : At3 37 (w13.setCell ⟨p, 0, none⟩ (.slice A13 zs.length c13)) pd cx cy false := (Below.heap_setCell _ _ _ _ (by show pd ≠ p; omega)).trans Y13
            have g0 := K13.box.c0
            have g1 := free_of_one K13.box
            clear K12 Y12 B12 K13 Y13 hown13 hb13 d0 e0 e1 HW2
            go_upto_region 13 with fail
            generalize w13.setCell ⟨p, 0, none⟩ (.slice A13 zs.length c13) = W14 at K14 Y14 ⊢
            clear g0 g1
            have e0 := Y14.c0
            have e1 := Y14.c1
            have e2 := Y14.c2
            have K15 := K14.on (below_alloc1 W14 (.cells #[.int .i64 cx, .int .i64 cy, .bool false] 37))
            have hM32 := HMl.out
            have hsz := K14.bel.size
            clear K14 Y14
            go_wp2_with (first
              | (at_builtin
                 go_must (refine wpList_append_lies _ rfl _ _ 30 rfl w.heap.size 37 i0 (.agg #[.int .i64 0, .int .i64 0, .bool false]) 3 24 Tryd.underlying30 hi hza hzb hzc rfl (by decide) (.slice (some ⟨go, 0, none⟩) M.length co) M.length (rowM M) (by rfl) K15.out ⟨W14.heap.size, 0, none⟩ 1 1 [.int .i64 cx, .int .i64 cy, .bool false] (by rfl) rfl (World.news_of_block (cs := #[.int .i64 cx, .int .i64 cy, .bool false]) (t := 37) (fr := (0, 0)) (heap_alloc_new W14 _)) (by simp [Value.oneCell']) (by omega) (by unfold maxLen; omega) (by omega) (by simp; omega) _ rfl ?_)
                 intro g16 c16 w16 hown16 hg16 hat16 hlt16))
            have K16 := K15.push (d := (cx, cy, false)) hg16 (hat16.imp (fun e => by injection e with e; exact e.symm) id) hown16
            rw [← HDm.out] at K16
            have HK := Lib.hid K16
            have HL2 := Lib.hid (show M.length + 1 = (M ++ [dmN cc false]).length by simp)
            have hy2 : (zs.length : Int) ≤ 1048576 := by rw [HY2.out]; omega
            clear K15 K16 hown16 hg16 hat16 e0 e1 e2
            go_roundw
            case rel => exact ⟨zs, M ++ [dmN cc false], A13, c13, g16, c16, by rw [← HL2.out], HK.out, HF2, hy2⟩
            case measure => (simp [lenV] <;> omega)
          | true =>
            have K8 := K7.far (a := ⟨pd, 2, none⟩) hpd.1 hpd.2.1 hpd.2.2 (.bool true)
            have Y8 := At3.put2 (T := 37) Y7
            have f2 := At3.fz Y7
            have e2 := Y7.c2
            go_upto_region 10 with fail
            generalize w7.setCell ⟨pd, 2, none⟩ (.bool true) = W8 at K8 Y8 ⊢
            clear K7 Y7 d0 e0 e1 e2
            have e0 := Y8.c0
            have e1 := Y8.c1
            have e2 := Y8.c2
            go_wp2_with fail
            refine (HUd.out _).mono ?_
            rintro e w9 ⟨rfl, hb9⟩
            have K9 := K8.on hb9
            have Y9 := Y8.on hb9
            have A9 := At2.new w9 cx cy
            have K10 := (K9.on (below_alloc1 w9 (.cells #[.int .i64 cx, .int .i64 cy] 68))).on (below_alloc1 (w9.alloc (.cells #[.int .i64 cx, .int .i64 cy] 68)) (.cells #[.int .i64 u, .int .i64 v] 68))
            have Y10 := (Y9.on (below_alloc1 w9 (.cells #[.int .i64 cx, .int .i64 cy] 68))).on (below_alloc1 (w9.alloc (.cells #[.int .i64 cx, .int .i64 cy] 68)) (.cells #[.int .i64 u, .int .i64 v] 68))
            have A10 := A9.on (below_alloc1 (w9.alloc (.cells #[.int .i64 cx, .int .i64 cy] 68)) (.cells #[.int .i64 u, .int .i64 v] 68))
            have B10 := At2.new (w9.alloc (.cells #[.int .i64 cx, .int .i64 cy] 68)) u v
            have hz9 : (w9.alloc (.cells #[.int .i64 cx, .int .i64 cy] 68)).heap.size = w9.heap.size + 1 := by simp
            rw [hz9] at B10
            have hp9 := K9.box.lt
            clear K8 Y8 K9 Y9 A9 hb9 e0 e1 e2 hz9 HUd
            go_upto_region 11 with fail
            generalize (w9.alloc (.cells #[.int .i64 cx, .int .i64 cy] 68)).alloc (.cells #[.int .i64 u, .int .i64 v] 68) = W10 at K10 Y10 A10 B10 ⊢
            have hpb : p ≠ w9.heap.size + 1 := by omega
            generalize w9.heap.size + 1 = pb at B10 hpb ⊢
            generalize w9.heap.size = pa at A10 ⊢
            have d0 := K10.box.c0
            have e0 := A10.c0
            have e1 := A10.c1
            go_wp2_with fail
            refine (HW1.out _ K10).mono ?_
            rintro e w11 ⟨A11, c11, rfl, hown11, hb11⟩
            have K11 := K10.on hb11
            have Y11 := Y10.on hb11
            have B11 := B10.on hb11
            have hpl := K10.box.lt
            have K12 := K11.put (zs := y1) (n' := y1.length) rfl HY1.out hpl hown11
            have Y12 : At3 37 (w11.setCell ⟨p, 0, none⟩ (.slice A11 y1.length c11)) pd cx cy true := (Below.heap_setCell _ _ _ _ (by show pd ≠ p; omega)).trans Y11
            have B12 : At2 (w11.setCell ⟨p, 0, none⟩ (.slice A11 y1.length c11)) pb u v := (Below.heap_setCell _ _ _ _ (by show pb ≠ p; omega)).trans B11
            have g0 := K11.box.c0
            have g1 := free_of_one K11.box
            clear K10 Y10 A10 B10 K11 Y11 B11 hown11 hb11 d0 e0 e1 HW1
            go_upto_region 12 with fail
            generalize w11.setCell ⟨p, 0, none⟩ (.slice A11 y1.length c11) = W12 at K12 Y12 B12 ⊢
            have d0 := K12.box.c0
            have e0 := B12.c0
            have e1 := B12.c1
            have HW2 := Lib.hid (sWithCell W12 A11 y1.length c11 W12.heap.size y1 rfl (by rw [HY1.out]; omega) K12.row (Nat.le_refl _) K12.nil u v false)
            rw [← HLd.out] at HW2
            clear g0 g1
            go_wp2_with fail
            refine HW2.out.mono ?_
            rintro e w13 ⟨A13, c13, rfl, hown13, hb13⟩
            have K13 := K12.on hb13
            have Y13 := Y12.on hb13
            have hpl2 := K12.box.lt
            have K14 := K13.put (zs := zs) (n' := zs.length) rfl HY2.out hpl2 hown13
            have Y14 : At3 37 (w13.setCell ⟨p, 0, none⟩ (.slice A13 zs.length c13)) pd cx cy true := (Below.heap_setCell _ _ _ _ (by show pd ≠ p; omega)).trans Y13
            have g0 := K13.box.c0
            have g1 := free_of_one K13.box
            clear K12 Y12 B12 K13 Y13 hown13 hb13 d0 e0 e1 HW2
            go_upto_region 13 with fail
            generalize w13.setCell ⟨p, 0, none⟩ (.slice A13 zs.length c13) = W14 at K14 Y14 ⊢
            clear g0 g1
            have e0 := Y14.c0
            have e1 := Y14.c1
            have e2 := Y14.c2
            have K15 := K14.on (below_alloc1 W14 (.cells #[.int .i64 cx, .int .i64 cy, .bool true] 37))
            have hM32 := HMl.out
            have hsz := K14.bel.size
            clear K14 Y14
            go_wp2_with (first
              | (at_builtin
                 go_must (refine wpList_append_lies _ rfl _ _ 30 rfl w.heap.size 37 i0 (.agg #[.int .i64 0, .int .i64 0, .bool false]) 3 24 Tryd.underlying30 hi hza hzb hzc rfl (by decide) (.slice (some ⟨go, 0, none⟩) M.length co) M.length (rowM M) (by rfl) K15.out ⟨W14.heap.size, 0, none⟩ 1 1 [.int .i64 cx, .int .i64 cy, .bool true] (by rfl) rfl (World.news_of_block (cs := #[.int .i64 cx, .int .i64 cy, .bool true]) (t := 37) (fr := (0, 0)) (heap_alloc_new W14 _)) (by simp [Value.oneCell']) (by omega) (by unfold maxLen; omega) (by omega) (by simp; omega) _ rfl ?_)
                 intro g16 c16 w16 hown16 hg16 hat16 hlt16))
            have K16 := K15.push (d := (cx, cy, true)) hg16 (hat16.imp (fun e => by injection e with e; exact e.symm) id) hown16
            rw [← HDm.out] at K16
            have HK := Lib.hid K16
            have HL2 := Lib.hid (show M.length + 1 = (M ++ [dmN cc true]).length by simp)
            have hy2 : (zs.length : Int) ≤ 1048576 := by rw [HY2.out]; omega
            clear K15 K16 hown16 hg16 hat16 e0 e1 e2
            go_roundw
            case rel => exact ⟨zs, M ++ [dmN cc true], A13, c13, g16, c16, by rw [← HL2.out], HK.out, HF2, hy2⟩
            case measure => (simp [lenV] <;> omega)
      · have HPf := Lib.hid (HLs.out _ _ hF.out (by omega))
        have hp2 : ¬ (0 : Int) < ((cellsR ys).length : Int) := by omega
        have HO := Lib.hid K4.out
        have HB := Lib.hid K4.bel
        clear hF K4 hcr
        go_wp2
        go_ret2
        exact HP.out _ _ _ _ HPf.out HO.out HB.out
end Go.Proofs.YtmaghekcpopepaaDoor.Lst
