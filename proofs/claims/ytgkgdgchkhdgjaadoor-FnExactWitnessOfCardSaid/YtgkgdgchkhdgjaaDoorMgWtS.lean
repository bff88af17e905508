/- WitM, WitS, LWit in one text. -/
import Derived.Test.YtgkgdgchkhdgjaaDoorMgWit
import Derived.Test.YtgkgdgchkhdgjaaDoorMgFnd
import Derived.Test.YtgkgdgchkhdgjaaDoorCellN
import Derived.Deep.AppendLies
import Derived.Test.YtgkgdgchkhdgjaaDoorRegL2

/- The variables of the model's WitnessOf in memory. -/
namespace Go.Proofs.YtgkgdgchkhdgjaaDoor.Def
set_option linter.unusedVariables false
set_option linter.unusedSimpArgs false
set_option maxRecDepth 100000
open Go.RowKit Go.Proofs.YtgkgdgchkhdgjaaDoor.Base Go.Proofs.YtgkgdgchkhdgjaaDoor.Pure Go.Proofs.YtgkgdgchkhdgjaaDoor.Cell Go.Proofs.YtgkgdgchkhdgjaaDoor.Cels Go.Proofs.YtgkgdgchkhdgjaaDoor.Dom Go.Proofs.YtgkgdgchkhdgjaaDoor.Sets Go.Proofs.YtgkgdgchkhdgjaaDoor.Kun Go.Proofs.YtgkgdgchkhdgjaaDoor.KuL Go.Proofs.YtgkgdgchkhdgjaaDoor.Til Go.Proofs.YtgkgdgchkhdgjaaDoor.Mat Go.Joins
open Go.Proofs.YtgkgdgchkhdgjaaDoor.Cnt (adj gR)
open Go.Proofs.YtgkgdgchkhdgjaaDoor.Reg hiding Yes add_none RC rc_start

/-- the marks of a list. -/
def zOf (L : List Nat) : Nat → Bool := fun u => decide (u ∈ L)
theorem zOf_nil : zOf [] = fun _ => false := by funext u; simp [zOf]
theorem zOf_snoc (L : List Nat) (x : Nat) : zOf (L ++ [x]) = put (zOf L) x true := by
  funext u
  unfold zOf put
  by_cases e : u = x
  · rw [if_pos e]; simp [e]
  · rw [if_neg e]; simp [e]
theorem grown_set (W : World) (b i : Nat) (x : Value) : W.grownBy (W.setCell ⟨b, i, none⟩ x) (some b) :=
  ⟨rfl, rfl, rfl, by simp [World.setCell], fun k _ hne => Below.heap_setCell _ _ _ _ (fun e => hne (by rw [e]))⟩
theorem row_rd {W : World} {B c : Nat} {A : Option Addr} {L : List Nat} (h : W.ownsRow B 33 2 (.slice A L.length c) L.length (rowC (L.map plc))) : ∃ b off, (0 < L.length → A = some ⟨b, off, none⟩ ∧ B ≤ b) ∧ RdC W b off (L.map plc) := by
  obtain ⟨b, off, hA, hR⟩ := Cels.rowC_own h
  rw [List.length_map] at hA
  exact ⟨b, off, fun h0 => ⟨(hA h0).1, by
    have e := (hA h0).1
    subst e
    exact (h.lt b rfl).1⟩, ⟨fun h0 => (hA (by rw [List.length_map] at h0; exact h0)).2, hR⟩⟩
/-- cells of places as an answer, in memory of their own. -/
def CelPost3 (js : List Nat) (w : World) (e : Ending) (w' : World) : Prop := ∃ A cap b off, e = .returned (.slice A js.length cap) ∧ (0 < js.length → A = some ⟨b, off, none⟩ ∧ w.heap.size ≤ b) ∧ RdC w' b off (js.map plc) ∧ Below w.heap.size w w'
theorem nb_cel3 {js : List Nat} {w : World} {e : Ending} {w' : World} (h : Nb.NbPost (js.map plc) w e w') : CelPost3 js w e w' := by
  obtain ⟨A, cap, rfl, hown, hb⟩ := h
  obtain ⟨b, off, hA, hR⟩ := Nb.rowC_own hown
  rw [List.length_map] at hA hown ⊢
  exact ⟨A, cap, b, off, rfl, fun h0 => ⟨(hA h0).1, by
    have e := (hA h0).1
    subst e
    exact (hown.lt b rfl).1⟩, ⟨fun h0 => (hA (by rw [List.length_map] at h0; exact h0)).2, hR⟩, hb⟩
/-- a row of cells lies in no block of marks. -/
theorem row_far {W : World} {B n c g sb : Nat} {us : List Value} {f : Nat → Value} (h : W.ownsRow B 33 2 (.slice (some ⟨g, 0, none⟩) n c) n us) (r : RowV 4 W sb f) : sb ≠ g := by
  rintro rfl
  obtain ⟨cs', hs, _⟩ := r
  rcases h.2 with ⟨hn, _⟩ | ⟨g', c', cur, hv, _, hg, _⟩
  · cases hn
  · injection hv with hv
    injection hv with hv
    injection hv with hv
    rw [← hv, hs] at hg
    injection hg with hg
    injection hg with _ hg
    exact absurd hg (by decide)
/-- the region's box, the empty answer, the table, the marks of what is joined. -/
structure WA (w : World) (rv : Value) (jb mb co : Nat) (J : Nat → Int) (Mz : Nat → Bool) (W : World) : Prop where
  bel : Below w.heap.size w W
  box : Rg W w.heap.size rv
  out : W.ownsRow (w.heap.size + 1) 33 2 (.slice (some ⟨w.heap.size + 1, 0, none⟩) 0 co) 0 []
  rj : RowV 3 W jb (vJ J)
  rm : RowV 4 W mb (vZ Mz)
section
variable {w W W' : World} {rv : Value} {jb mb co : Nat} {J : Nat → Int} {Mz : Nat → Bool}
theorem WA.on (h : WA w rv jb mb co J Mz W) (hb : Below W.heap.size W W') : WA w rv jb mb co J Mz W' :=
  ⟨h.bel.trans (hb.mono h.bel.size), h.box.on hb, Reg.own_below h.out hb (Nat.le_refl _), h.rj.on hb, h.rm.on hb⟩
theorem WA.drew (h : WA w rv jb mb co J Mz W) : WA w rv jb mb co J Mz W.drew := ⟨h.bel.drew, h.box, h.out, h.rj, h.rm⟩
theorem WA.keep {g : Nat} (h : WA w rv jb mb co J Mz W) (hg : W.grownBy W' (some g)) (h0 : w.heap.size + 1 < g) (h1 : jb ≠ g) (h2 : mb ≠ g) : WA w rv jb mb co J Mz W' :=
  ⟨h.bel.grown hg h.bel.size (fun q e => by cases e; omega), (hg.block _ h.box.lt (by intro e; injection e with e; omega)).trans h.box, h.out.kept hg (.inr (by intro e; injection e with e; have e : w.heap.size + 1 = g := e; omega)), h.rj.same (hg.block _ h.rj.lt (by intro e; injection e with e; exact h1 e)), h.rm.same (hg.block _ h.rm.lt (by intro e; injection e with e; exact h2 e))⟩
theorem WA.keepO {row : Option Nat} (h : WA w rv jb mb co J Mz W) (hg : W.grownBy W' row) (hr : ∀ g, row = some g → w.heap.size + 1 < g ∧ jb ≠ g ∧ mb ≠ g) : WA w rv jb mb co J Mz W' := by
  cases row with
  | none => exact h.on ⟨hg.os, hg.tape, hg.output, hg.size, fun k hk => hg.block k hk (by simp)⟩
  | some g => obtain ⟨a, b, c⟩ := hr g rfl; exact h.keep hg a b c
theorem WA.setM (h : WA w rv jb mb co J Mz W) (h0 : w.heap.size + 1 < mb) (h1 : jb ≠ mb) {i : Nat} (hi : i < 64) : WA w rv jb mb co J (put Mz i true) (W.setCell ⟨mb, i, none⟩ (.bool true)) := by
  have hg := grown_set W mb i (.bool true)
  refine ⟨h.bel.grown hg h.bel.size (fun q e => by cases e; omega), (hg.block _ h.box.lt (by intro e; injection e with e; omega)).trans h.box, h.out.kept hg (.inr (by intro e; injection e with e; have e : w.heap.size + 1 = mb := e; omega)), h.rj.same (hg.block _ h.rj.lt (by intro e; injection e with e; exact h1 e)), ?_⟩
  rw [vZ_put]; exact h.rm.set hi _
end
/-- and the marks of what is reached, the list. -/
structure WC (w : World) (rv : Value) (jb mb co sb lb : Nat) (J : Nat → Int) (Mz : Nat → Bool) (A : Option Addr) (c : Nat) (L : List Nat) (W : World) : Prop where
  a : WA w rv jb mb co J Mz W
  rs : RowV 4 W sb (vZ (zOf L))
  li : W.ownsRow lb 33 2 (.slice A L.length c) L.length (rowC (L.map plc))
  lo : w.heap.size + 1 < mb ∧ jb < mb ∧ mb < sb ∧ sb < lb
section
variable {w W W' : World} {rv : Value} {jb mb co sb lb c : Nat} {J : Nat → Int} {Mz : Nat → Bool} {A : Option Addr} {L : List Nat}
theorem WC.on (h : WC w rv jb mb co sb lb J Mz A c L W) (hb : Below W.heap.size W W') : WC w rv jb mb co sb lb J Mz A c L W' := ⟨h.a.on hb, h.rs.on hb, Reg.own_below h.li hb (Nat.le_refl _), h.lo⟩
theorem WC.drew (h : WC w rv jb mb co sb lb J Mz A c L W) : WC w rv jb mb co sb lb J Mz A c L W.drew := ⟨h.a.drew, h.rs, h.li, h.lo⟩
/-- one is reached: its mark. -/
structure WD (w : World) (rv : Value) (jb mb co sb lb : Nat) (J : Nat → Int) (Mz : Nat → Bool) (A : Option Addr) (c : Nat) (L : List Nat) (x : Nat) (W : World) : Prop where
  a : WA w rv jb mb co J Mz W
  rs : RowV 4 W sb (vZ (zOf (L ++ [x])))
  li : W.ownsRow lb 33 2 (.slice A L.length c) L.length (rowC (L.map plc))
  lo : w.heap.size + 1 < mb ∧ jb < mb ∧ mb < sb ∧ sb < lb
theorem WC.mark (h : WC w rv jb mb co sb lb J Mz A c L W) {x : Nat} (hx : x < 64) : WD w rv jb mb co sb lb J Mz A c L x (W.setCell ⟨sb, x, none⟩ (.bool true)) := by
  obtain ⟨l1, l2, l3, l4⟩ := h.lo
  have hg := grown_set W sb x (.bool true)
  refine ⟨h.a.keep hg (by omega) (by omega) (by omega), ?_, h.li.kept hg ?_, h.lo⟩
  · rw [zOf_snoc, vZ_put]; exact h.rs.set hx _
  · by_cases hn : (Value.slice A L.length c).ownBlock = some sb
    · have := (h.li.lt sb hn).1; omega
    · exact .inr hn
theorem WD.on {x : Nat} (h : WD w rv jb mb co sb lb J Mz A c L x W) (hb : Below W.heap.size W W') : WD w rv jb mb co sb lb J Mz A c L x W' := ⟨h.a.on hb, h.rs.on hb, Reg.own_below h.li hb (Nat.le_refl _), h.lo⟩
theorem WD.drew {x : Nat} (h : WD w rv jb mb co sb lb J Mz A c L x W) : WD w rv jb mb co sb lb J Mz A c L x W.drew := ⟨h.a.drew, h.rs, h.li, h.lo⟩
/-- and it stands in the list. -/
theorem WD.push {x g c' : Nat} (h : WD w rv jb mb co sb lb J Mz A c L x W) (ho : W'.ownsRow lb 33 2 (.slice (some ⟨g, 0, none⟩) (L.length + 1) c') (L.length + 1) (rowC (L.map plc) ++ [.int .i64 (plc x).1, .int .i64 (plc x).2])) (hg : W.grownBy W' (Value.slice A L.length c).ownBlock) : WC w rv jb mb co sb lb J Mz (some ⟨g, 0, none⟩) c' (L ++ [x]) W' := by
  obtain ⟨l1, l2, l3, l4⟩ := h.lo
  have hlo : ∀ q, (Value.slice A L.length c).ownBlock = some q → lb ≤ q := fun q e => (h.li.lt q e).1
  have hl : (L ++ [x]).length = L.length + 1 := by rw [List.length_append]; rfl
  refine ⟨h.a.keepO hg (fun q e => by have := hlo q e; omega), h.rs.same (hg.block _ h.rs.lt (fun e => by have := hlo _ e.symm; omega)), ?_, h.lo⟩
  rw [hl, List.map_append, List.map_singleton, show plc x = ((plc x).1, (plc x).2) from rfl, rowC_snoc]
  exact ho
end
end Go.Proofs.YtgkgdgchkhdgjaaDoor.Def

/- The model's WitnessOf. -/
namespace Go.Proofs.YtgkgdgchkhdgjaaDoor.Def
set_option linter.unusedVariables false
set_option linter.unusedSimpArgs false
set_option maxRecDepth 100000
open Go.RowKit Go.Proofs.YtgkgdgchkhdgjaaDoor.Base Go.Proofs.YtgkgdgchkhdgjaaDoor.Pure Go.Proofs.YtgkgdgchkhdgjaaDoor.Cell Go.Proofs.YtgkgdgchkhdgjaaDoor.Cels Go.Proofs.YtgkgdgchkhdgjaaDoor.Dom Go.Proofs.YtgkgdgchkhdgjaaDoor.Sets Go.Proofs.YtgkgdgchkhdgjaaDoor.Kun Go.Proofs.YtgkgdgchkhdgjaaDoor.KuL Go.Proofs.YtgkgdgchkhdgjaaDoor.Til Go.Proofs.YtgkgdgchkhdgjaaDoor.Mat Go.Joins
open Go.Proofs.YtgkgdgchkhdgjaaDoor.Cnt (adj gR gR_in)
open Go.Proofs.YtgkgdgchkhdgjaaDoor.Reg hiding Yes add_none RC rc_start

theorem has_bit {xs : List Int} {k : Nat} (hk : k < 64) : bitB (rowD xs (k / 8)) (k % 8) = gR xs k := (gR_in hk).symm
theorem no_bits : (fun u : Nat => isTk (fun _ => (0 : Int)) 0 u) = fun _ => false := by funext u; rfl
/-- the loop's end. -/
theorem wit_out {xs : List Int} (ho : okR xs) {L : List Nat} {k : Nat} (h : Bf xs (joined xs) L k) (hk : L.length ≤ k) : outK (zOf L) 64 = witR xs := by
  rw [← outK_all ho, ← h.fin hk]; rfl
theorem outK_len (Z : Nat → Bool) (k : Nat) : (outK Z k).length ≤ k := by
  unfold outK
  rw [List.length_map]
  exact Nat.le_trans (List.length_filter_le _ _) (by rw [List.length_range]; exact Nat.le_refl _)
set_option maxHeartbeats 8000000 in
theorem sWitnessOf (w : World) (A : Option Addr) (n cap B : Nat) (xs : List Int) (hx : xs.length = n) (hn : (n : Int) ≤ 9223372036854775807) (h : RowB w B A xs) (hB : B ≤ w.heap.size) :
    Calls Tryd.prog 27 #[.agg #[.slice A n cap]] w (Cels.NbPost (witR xs) w) := by
  obtain ⟨i0, hi, hz0, hz1, hz2⟩ := info_parts Cels.cellInfo
  have HOk := Lib.hid (fun W (hb : Below w.heap.size w W) => sRegionOk W A n cap B xs hx hn (h.below hb hB) (by have := hb.size; omega))
  have HJ := Lib.hid (fun W (hb : Below w.heap.size w W) (ho : okR xs) => sJoined W A n cap B xs hx hn ho (h.below hb hB) (by have := hb.size; omega))
  have HC := Lib.hid (fun W (hb : Below w.heap.size w W) => idl_cells xs ▸ sCellsOf W A n cap B xs hx hn (h.below hb hB) (by have := hb.size; omega))
  have HH := Lib.hid (fun (ho : okR xs) W (hb : Below w.heap.size w W) k (hk : k < 64) => show Calls Tryd.prog 37 #[.agg #[.slice A n cap], .agg #[.int .i64 (plc k).1, .int .i64 (plc k).2]] W (Bol (gR xs k) W) from has_bit (xs := xs) hk ▸ sHas W A n cap B xs hx ho (h.below hb hB) (by have := hb.size; omega) (k % 8) (k / 8) (by omega) (by omega))
  have R0 := Rg.new w (.slice A n cap)
  have B0 := below_alloc1 w (.cells #[.slice A n cap] 26)
  have B1 := B0.alloc (by simp) (.cells #[] 33)
  have R1 : Rg ((w.alloc (.cells #[.slice A n cap] 26)).alloc (.cells #[] 33)) w.heap.size (.slice A n cap) := (Below.heap_alloc _ _ _ (by simp)).trans R0
  have O1 : ((w.alloc (.cells #[.slice A n cap] 26)).alloc (.cells #[] 33)).ownsRow (w.heap.size + 1) 33 2 (.slice (some ⟨w.heap.size + 1, 0, none⟩) 0 0) 0 [] :=
    ⟨rfl, .inr ⟨w.heap.size + 1, 0, #[], rfl, Nat.le_refl _, by have := heap_alloc_new (w.alloc (.cells #[.slice A n cap] 26)) (.cells #[] 33); rwa [World.size_alloc] at this, Nat.le_refl _, by unfold maxLen; omega, rfl, rfl⟩⟩
  have HLn := Lib.hid (cellsR_length xs)
  rw [idl_cells, List.length_map] at HLn
  clear hx hn h hB R0 B0
  by_cases ho : okR xs
  · rw [okRB_of ho] at HOk
    have HJo := Lib.hid (fun W hb => HJ.out W hb ho)
    rw [jT_end ho] at HJo
    have HHo := Lib.hid (fun W hb k hk => HH.out ho W hb k hk)
    have HMc := Lib.hid (joined_max xs).1
    have HBd := Lib.hid (show Bd (joined xs) from jT_end ho ▸ jT_bd xs (idl xs).length)
    have HF0 := Lib.hid (fun t (ht : (idl xs).length ≤ t) => frs0_bf ho (J := joined xs) ht)
    have HFin := Lib.hid (fun (L : List Nat) k (h : Bf xs (joined xs) L k) (hk : L.length ≤ k) => wit_out ho h hk)
    have HNb := Lib.hid (fun v (hv : v < 64) W => (nb_is hv ▸ Nb.specNb (plc v).1 (plc v).2 W).mono (fun e w' q => nb_cel3 q))
    have HCat := Lib.hid (fun (k : Nat) (hk : k < 64) W => show Calls Tryd.prog 36 #[.int .i64 (k : Int)] W (CelB (plc k).1 (plc k).2 true W) from by
      have := sCellAt (k : Int) W
      rwa [(atX_plc hk).1, (atX_plc hk).2, inB_of (by omega)] at this)
    have HMi := Lib.hid (fun u => show isTk (joined xs) 64 u = isT (joined xs) u from rfl)
    clear ho HJ HH
    go_enter Tryd.func27, Tryd.ntmps27
    go_wp2_with fail
    generalize (w.alloc (.cells #[.slice A n cap] 26)).alloc (.cells #[] 33) = W1 at B1 R1 O1 ⊢
    refine (HOk.out _ B1).mono ?_
    rintro e w2 ⟨rfl, hb2⟩
    have B2 := B1.trans (hb2.mono B1.size)
    have R2 := R1.on hb2
    have O2 := Reg.own_below O1 hb2 (Nat.le_refl _)
    have r2 := R2.c0
    clear B1 R1 O1 hb2 HOk
    go_wp2_with fail
    refine (HJo.out _ B2).mono ?_
    rintro e w3 ⟨jb, cj, rfl, hj3, hb3⟩
    have HS3 := Lib.hid (And.intro (B2.trans (hb3.mono B2.size)) (And.intro (R2.on hb3) (And.intro (Reg.own_below O2 hb3 (Nat.le_refl _)) hj3)))
    clear B2 R2 O2 r2 hj3 hb3 HJo
    have hjl := HS3.out.2.2.2.lt
    have hol := HS3.out.2.2.1.lt (w.heap.size + 1) rfl
    obtain ⟨mb, hmb⟩ : ∃ mb, mb = w3.heap.size := ⟨_, rfl⟩
    have hmk := make64 w3
    have A4 : WA w (.slice A n cap) jb mb 0 (joined xs) (fun _ => false) (mk64 w3) := ⟨HS3.out.1.trans ((mk64_below w3).mono HS3.out.1.size), HS3.out.2.1.on (mk64_below w3), Reg.own_below HS3.out.2.2.1 (mk64_below w3) (Nat.le_refl _), HS3.out.2.2.2.on (mk64_below w3), hmb ▸ mk64_row w3⟩
    have HA4 := Lib.hid A4
    have hz4 := mk64_size w3
    clear A4 HS3
    obtain ⟨W4, hW4⟩ : ∃ W4, W4 = mk64 w3 := ⟨_, rfl⟩
    rw [← hW4] at hmk HA4 hz4
    rw [← hmb] at hmk hjl hol hz4
    clear hW4 hmb
    have hj4 : jb < mb := hjl
    have ho4 : w.heap.size + 1 < mb := hol.2
    clear hjl hol
    go_wp2_with fail
    clear hmk
    go_loopg [6] 64 (fun gg i wr => ∃ k : Nat, k + gg = 64 ∧ i = .int .i64 k ∧ WA w (.slice A n cap) jb mb 0 (joined xs) (isTk (joined xs) k) wr ∧ mb < wr.heap.size)
    case atStart => exact ⟨0, by omega, rfl, by rw [isTk_zero]; exact HA4.out, by omega⟩
    case round =>
      clear HA4 hz4
      obtain ⟨k, hk, rfl, hA, hzr⟩ := hrel
      by_cases hlt : k < 64
      · have c0 := hA.rj.cell hlt
        unfold vJ at c0
        have HBk := HBd.out k
        have HNo := Lib.hid (fun hh => isTk_no (J := joined xs) (t := k) hh)
        have HYe := Lib.hid (fun hh => isTk_yes (J := joined xs) (t := k) hh)
        generalize joined xs k = q at c0 HBk HNo HYe
        have HA := Lib.hid hA
        by_cases h0 : 0 ≤ q
        · obtain ⟨x, rfl⟩ : ∃ x : Nat, q = (x : Int) := ⟨q.toNat, by omega⟩
          have hx64 : x < 64 := by omega
          have hxI : (x : Int) < 64 := by omega
          have HY := Lib.hid (HYe.out h0)
          have m0 := hA.rm.cell hx64
          have mf := hA.rm.frozen x
          have A5 := hA.setM ho4 (by omega) hx64
          rw [Int.toNat_natCast] at HY
          have HA5 := Lib.hid (show WA w (.slice A n cap) jb mb 0 (joined xs) (isTk (joined xs) (k + 1)) (wr.setCell ⟨mb, x, none⟩ (.bool true)) by rw [HY.out]; exact A5)
          have hz5 : (wr.setCell ⟨mb, x, none⟩ (.bool true)).heap.size = wr.heap.size := by simp [World.setCell]
          have HZ5 := Lib.hid hz5
          clear HNo HYe HY HBk A5 hA hz5
          go_wp2
          go_roundg (gk - 1)
          case measure => omega
          case rel => exact ⟨k + 1, by omega, by go_num, HA5.out, by rw [HZ5.out]; exact hzr⟩
        · have HA5 := Lib.hid (show WA w (.slice A n cap) jb mb 0 (joined xs) (isTk (joined xs) (k + 1)) wr by rw [HNo.out (by omega)]; exact HA.out)
          clear HNo HYe HBk hA
          go_wp2
          go_roundg (gk - 1)
          case measure => omega
          case rel => exact ⟨k + 1, by omega, by go_num, HA5.out, hzr⟩
      · obtain rfl : k = 64 := by omega
        rw [isTk_all] at hA
        have HA := Lib.hid hA
        obtain ⟨sb, hsb⟩ : ∃ sb, sb = wr.heap.size := ⟨_, rfl⟩
        have hmk := make64 wr
        have hz6 := mk64_size wr
        have HR6 := Lib.hid (show RowV 4 (mk64 wr) sb (vZ (zOf [])) by rw [zOf_nil, hsb]; exact mk64_row wr)
        have HA6 := Lib.hid (HA.out.on (mk64_below wr))
        obtain ⟨W6, hW6⟩ : ∃ W6, W6 = mk64 wr := ⟨_, rfl⟩
        rw [← hW6] at hmk hz6 HR6 HA6
        rw [← hsb] at hmk hz6 hzr
        clear hW6 hA HA
        have A7 := HA6.out.on (below_alloc1 W6 (.cells #[] 33))
        have C7 : WC w (.slice A n cap) jb mb 0 sb (sb + 1) (joined xs) (isT (joined xs)) (some ⟨sb + 1, 0, none⟩) 0 [] (W6.alloc (.cells #[] 33)) :=
          ⟨A7, HR6.out.on (below_alloc1 _ _), ⟨rfl, .inr ⟨sb + 1, 0, #[], rfl, Nat.le_refl _, by rw [← hz6]; exact heap_alloc_new W6 _, Nat.le_refl _, by unfold maxLen; omega, rfl, rfl⟩⟩, by omega⟩
        have HC7 := Lib.hid C7
        clear A7 C7 HA6 HR6 hsb
        go_upto_region 13 with fail
        clear hmk
        have HZ7 : (W6.alloc (.cells #[] 33)).heap.size = sb + 2 := by rw [World.size_alloc, hz6]
        generalize W6.alloc (.cells #[] 33) = W7 at HC7 HZ7 ⊢
        have r7 := HC7.out.a.box.c0
        go_wp2_with fail
        refine (HC.out _ HC7.out.a.bel).mono ?_
        rintro e w8 ⟨A8, cap8, rfl, hown8, hb8⟩
        obtain ⟨b8, off8, hA8, hR8⟩ := Cels.rowC_own hown8
        have hlow8 : 0 < (idl xs).length → sb + 2 ≤ b8 := fun h0 => by
          have e := (hA8 (by rw [List.length_map]; exact h0)).1
          subst e
          have := (hown8.lt b8 rfl).1
          omega
        rw [List.length_map] at hA8 ⊢
        have HA8 := Lib.hid (fun h0 => (hA8 h0).1)
        have HR8 := Lib.hid (show RdC w8 b8 off8 ((idl xs).map plc) from ⟨fun h0 => (hA8 (by rw [List.length_map] at h0; exact h0)).2, hR8⟩)
        have HC8 := Lib.hid (HC7.out.on hb8)
        have HLow := Lib.hid hlow8
        clear r7 hown8 hb8 hA8 hR8 hlow8 HC7 HC
        obtain ⟨N, hN⟩ : ∃ N, N = (idl xs).length := ⟨_, rfl⟩
        rw [← hN] at HLn HA8 HLow HF0 ⊢
        have HN := Lib.hid hN
        clear hN
        go_wp2_with fail
        go_loopg [8, 10] N (fun gg v i wr => ∃ (t c : Nat) (Al : Option Addr), t + gg = N ∧ i = .int .i64 t ∧ v = .slice Al (frs0 xs (joined xs) t).length c ∧ WC w (.slice A n cap) jb mb 0 sb (sb + 1) (joined xs) (isT (joined xs)) Al c (frs0 xs (joined xs) t) wr ∧ RdC wr b8 off8 ((idl xs).map plc) ∧ Hid (0 < N → (Value.slice Al (frs0 xs (joined xs) t).length c).ownBlock ≠ some b8))
        case atStart => exact ⟨0, 0, some ⟨sb + 1, 0, none⟩, by omega, rfl, rfl, HC8.out, HR8.out, Lib.hid (fun h0 e => by injection e with e; have e : sb + 1 = b8 := e; have := HLow.out h0; omega)⟩
        case round =>
          clear HC8 HR8
          obtain ⟨t, c, Al, ht, rfl, rfl, hC, hR, HF⟩ := hrel
          by_cases hlt : t < N
          · have hti : t < (idl xs).length := by rw [← HN.out]; exact hlt
            obtain rfl := HA8.out (by omega)
            obtain ⟨c0, c1⟩ := hR.2 t (plc (idl xs)[t]) (by rw [List.getElem?_map, List.getElem?_eq_getElem hti]; rfl)
            obtain ⟨v64, _, _⟩ := idl_mem (List.getElem_mem hti)
            have hbl := hR.1 (by rw [List.length_map]; omega)
            have HBl := Lib.hid (fun W => CellF.sIsBlack (plc (idl xs)[t]).1 (plc (idl xs)[t]).2 W)
            rw [show blackB (plc (idl xs)[t]).1 (plc (idl xs)[t]).2 = col (idl xs)[t] from col_black v64] at HBl
            have HIx := Lib.hid (fun W => index_plc v64 ▸ CellF.sCellIndex (plc (idl xs)[t]).1 (plc (idl xs)[t]).2 W)
            have HNo := Lib.hid (fun hh => frs0_no (J := joined xs) hti hh)
            have HYe := Lib.hid (fun hh => frs0_yes (J := joined xs) hti hh)
            have hLt : (frs0 xs (joined xs) t).length ≤ t := by
              unfold frs0
              exact Nat.le_trans (List.length_filter_le _ _) (by rw [List.length_take]; omega)
            have hN64 := HLn.out
            have HXv := Lib.hid (show ((idl xs).map plc)[t]? = some (plc (idl xs)[t]) by rw [List.getElem?_map, List.getElem?_eq_getElem hti]; rfl)
            generalize (idl xs)[t] = v at c0 c1 v64 HBl HIx HNo HYe HXv
            obtain ⟨vx, hvx⟩ : ∃ q, q = (plc v).1 := ⟨_, rfl⟩
            obtain ⟨vy, hvy⟩ : ∃ q, q = (plc v).2 := ⟨_, rfl⟩
            rw [← hvx] at c0 HBl HIx
            rw [← hvy] at c1 HBl HIx
            have HPv := Lib.hid (And.intro hvx hvy)
            clear hvx hvy
            generalize hU : frs0 xs (joined xs) t = U at hC HF HNo HYe hLt ⊢
            clear hU
            go_wp2_with fail
            refine (HBl.out _).mono ?_
            rintro e w9 ⟨rfl, hb9⟩
            have C9 := hC.on hb9
            have R9 := hR.on hb9
            have c0 := (hb9.cell (p := ⟨b8, off8 + t * 2, none⟩) hbl).trans c0
            have c1 := (hb9.cell (p := ⟨b8, off8 + t * 2 + 1, none⟩) hbl).trans c1
            have hbl9 : b8 < w9.heap.size := Nat.lt_of_lt_of_le hbl hb9.size
            clear hC hR hb9 HBl
            cases hc : col v with
            | false =>
              have HU2 := Lib.hid (HNo.out (by rw [hc]; rfl))
              clear hc HNo HYe HIx
              go_wp2
              go_roundg (gk - 1)
              case measure => omega
              case rel => exact ⟨t + 1, c, Al, by omega, by go_num, by rw [HU2.out], by rw [HU2.out]; exact C9, R9, by rw [HU2.out]; exact HF⟩
            | true =>
              go_wp2_with fail
              refine (HIx.out _).mono ?_
              rintro e w10 ⟨rfl, hb10⟩
              have C10 := C9.on hb10
              have R10 := R9.on hb10
              have c0 := (hb10.cell (p := ⟨b8, off8 + t * 2, none⟩) hbl9).trans c0
              have c1 := (hb10.cell (p := ⟨b8, off8 + t * 2 + 1, none⟩) hbl9).trans c1
              have hbl10 : b8 < w10.heap.size := Nat.lt_of_lt_of_le hbl9 hb10.size
              have m0 := C10.a.rm.cell v64
              unfold vZ at m0
              have hvI : (v : Int) < 64 := by omega
              clear C9 R9 hb10
              generalize hmk : isT (joined xs) v = mk at m0
              cases mk with
              | true =>
                have HU2 := Lib.hid (HNo.out (by rw [hc, hmk]; rfl))
                clear hc hmk HNo HYe HIx
                go_wp2
                go_roundg (gk - 1)
                case measure => omega
                case rel => exact ⟨t + 1, c, Al, by omega, by go_num, by rw [HU2.out], by rw [HU2.out]; exact C10, R10, by rw [HU2.out]; exact HF⟩
              | false =>
                have HU2 := Lib.hid (HYe.out (by rw [hc, hmk]; rfl))
                clear hc hmk HNo HYe
                go_wp2_with fail
                refine (HIx.out _).mono ?_
                rintro e w11 ⟨rfl, hb11⟩
                have C11 := C10.on hb11
                have R11 := R10.on hb11
                have hbs : sb ≠ b8 := by have := HLow.out (by omega); omega
                have s0 := C11.rs.cell v64
                have sf := C11.rs.frozen v
                unfold vZ at s0
                have D12 := C11.mark v64
                have R12 := R11.grown (grown_set w11 sb v (.bool true)) (fun _ => hbs)
                clear C10 R10 hb11 c0 c1 HIx m0
                go_upto_region 19 with fail
                generalize w11.setCell ⟨sb, v, none⟩ (.bool true) = w12 at D12 R12 ⊢
                clear C11 R11 s0 sf
                obtain ⟨c0, c1⟩ := R12.2 t (plc v) HXv.out
                rw [← HPv.out.1] at c0
                rw [← HPv.out.2] at c1
                have hsl := D12.rs.lt
                go_wp2_with (first
                  | (at_builtin; refine wpList_append_lies _ rfl _ _ 28 rfl (sb + 1) 33 i0 (.agg #[.int .i64 0, .int .i64 0]) 2 16 Tryd.underlying28 hi hz0 hz1 hz2 rfl (by decide) (.slice Al U.length c) U.length (rowC (U.map plc)) (by rfl) (D12.li.alloc _) ⟨w12.heap.size, 0, none⟩ 1 1 [.int .i64 vx, .int .i64 vy] (by rfl) rfl (World.news_of_block (cs := #[.int .i64 vx, .int .i64 vy]) (t := 33) (fr := (0, 0)) (heap_alloc_new w12 _)) (by simp [Value.oneCell']) (by decide) (by unfold maxLen; omega) (by omega) (by simp; omega) (w12.heap.size + 1) (by simp) ?_; intro g5 c5 w13 hown5 hgrow5 hat5 hlt5))
                have D13 := D12.on (below_alloc1 w12 (.cells #[.int .i64 vx, .int .i64 vy] 33))
                have R13 := R12.on (below_alloc1 w12 (.cells #[.int .i64 vx, .int .i64 vy] 33))
                rw [HPv.out.1, HPv.out.2] at hown5
                have C14 := D13.push (x := v) hown5 hgrow5
                have hnl : ((idl xs).map plc).length = N := by rw [List.length_map, HN.out]
                have R14 : RdC w13 b8 off8 ((idl xs).map plc) := R13.same hgrow5.size (fun h0 => hgrow5.block b8 (R13.1 h0) (fun e => HF.out (by omega) e.symm))
                have HF5 := Lib.hid (show 0 < N → (Value.slice (some (⟨g5, 0, none⟩ : Addr)) (U ++ [v]).length c5).ownBlock ≠ some b8 from fun h0 e => by
                  injection e with e
                  have e : g5 = b8 := e
                  rcases hat5 with q | q
                  · exact HF.out h0 (by rw [q, e])
                  · have := R12.1 (by omega); omega)
                have hln : (U ++ [v]).length = U.length + 1 := by rw [List.length_append]; rfl
                clear hown5 hgrow5 hat5 hlt5 D12 D13 R12 R13 c0 c1
                go_wp2
                go_roundg (gk - 1)
                case measure => omega
                case rel => exact ⟨t + 1, c5, some ⟨g5, 0, none⟩, by omega, by go_num, by rw [HU2.out, hln], by rw [HU2.out]; exact C14, R14, by rw [HU2.out]; exact HF5⟩
          · obtain rfl : t = N := by omega
            have HB0 := Lib.hid (HF0.out t (Nat.le_refl _))
            have HC := Lib.hid hC
            have HL64 := Lib.hid (fun (L : List Nat) k (h : Bf xs (joined xs) L k) => h.len HMc.out)
            clear hC hR HF HF0
            generalize frs0 xs (joined xs) t = L0 at HB0 HC ⊢
            go_wp2_with fail
            go_loopg [8, 11] 65 (fun gg v i wr => ∃ (k c : Nat) (L : List Nat) (Al : Option Addr), k + gg = 65 ∧ i = .int .i64 k ∧ v = .slice Al L.length c ∧ Hid (Bf xs (joined xs) L k) ∧ Hid (k ≤ L.length) ∧ WC w (.slice A n cap) jb mb 0 sb (sb + 1) (joined xs) (isT (joined xs)) Al c L wr)
            case atStart => exact ⟨0, c, L0, Al, by omega, rfl, rfl, HB0, Lib.hid (Nat.zero_le _), HC.out⟩
            case round =>
              clear HB0 HC
              obtain ⟨k, c, L, Al, hk, rfl, rfl, HB, HKl, hC⟩ := hrel
              have hL64 := HL64.out L k HB.out
              by_cases hlt : k < L.length
              · obtain ⟨b2, off2, hA2, hR2⟩ := row_rd hC.li
                obtain ⟨eA, _⟩ := hA2 (by omega)
                subst eA
                obtain ⟨c0, c1⟩ := hR2.2 k (plc L[k]) (by rw [List.getElem?_map, List.getElem?_eq_getElem hlt]; rfl)
                have hu := HB.out.lt HMc.out L[k] (List.getElem_mem hlt)
                have HBi0 := Lib.hid (HB.out.open (List.getElem?_eq_getElem hlt))
                have HNu := Lib.hid (fun W => HNb.out L[k] hu.1 W)
                have hN4 := nb_len ⟨L[k], hu.1⟩
                simp only at hN4
                generalize L[k] = u at c0 c1 HBi0 HNu hN4
                obtain ⟨ux, hux⟩ : ∃ q, q = (plc u).1 := ⟨_, rfl⟩
                obtain ⟨uy, huy⟩ : ∃ q, q = (plc u).2 := ⟨_, rfl⟩
                rw [← hux] at c0 HNu
                rw [← huy] at c1 HNu
                have HC := Lib.hid hC
                clear hux huy hu HB hA2 hR2 hC
                go_wp2_with fail
                refine (HNu.out _).mono ?_
                rintro e w5 ⟨A6, cap6, b6, off6, rfl, hA6, hR6, hb6⟩
                have C5 := HC.out.on hb6
                have HFar := Lib.hid (show 0 < (nbN u).length → (Value.slice (some (⟨b2, off2, none⟩ : Addr)) L.length c).ownBlock ≠ some b6 from fun h0 e => by
                  have h1 := (HC.out.li.lt b6 e).2
                  have h2 := (hA6 h0).2
                  omega)
                have HLow6 := Lib.hid (show 0 < (nbN u).length → sb < b6 from fun h0 => by
                  have h1 := HC.out.rs.lt
                  have h2 := (hA6 h0).2
                  omega)
                have HA6 := Lib.hid (fun h0 => (hA6 h0).1)
                have HR6 := Lib.hid hR6
                have H64 := Lib.hid (fun i (hi : i < (nbN u).length) => (mem_nbN.1 (List.getElem_mem hi)).1)
                clear hb6 hA6 hR6 HNu HC c0 c1
                have HSk := Lib.hid (fun (L : List Nat) i (h : Bi xs (joined xs) L k u i) (hi : i < (nbN u).length) hs => h.skip hi hs)
                have HAd := Lib.hid (fun (L : List Nat) i (h : Bi xs (joined xs) L k u i) (hi : i < (nbN u).length) hg h0 hn => h.add hi hg h0 hn)
                have HCl := Lib.hid (fun (L : List Nat) i (h : Bi xs (joined xs) L k u i) (hi : (nbN u).length ≤ i) => h.close hi)
                have HLk := Lib.hid (fun (L : List Nat) i (h : Bi xs (joined xs) L k u i) => show k < L.length ∧ L.length ≤ 64 from ⟨(List.getElem?_eq_some_iff.1 h.at_).1, h.bf.len HMc.out⟩)
                generalize nbN u = Nn at *
                obtain ⟨n4, hn4⟩ : ∃ n4, n4 = Nn.length := ⟨_, rfl⟩
                rw [← hn4] at hN4 HFar HLow6 HA6 ⊢
                have HN4 := Lib.hid hn4
                clear hn4
                have HC5 := Lib.hid C5
                clear C5
                go_wp2_with fail
                go_loopg [8, 13] n4 (fun gg v ii wr => ∃ (i c : Nat) (L : List Nat) (Al : Option Addr), i + gg = n4 ∧ ii = .int .i64 i ∧ v = .slice Al L.length c ∧ Hid (Bi xs (joined xs) L k u i) ∧ Hid (0 < n4 → (Value.slice Al L.length c).ownBlock ≠ some b6) ∧ WC w (.slice A n cap) jb mb 0 sb (sb + 1) (joined xs) (isT (joined xs)) Al c L wr ∧ RdC wr b6 off6 (Nn.map plc))
                case atStart => exact ⟨0, c, L, _, by omega, rfl, rfl, HBi0, HFar, HC5.out, HR6.out⟩
                case round =>
                  clear HBi0 HFar HC5 HR6
                  obtain ⟨i, c2, L2, A2, hi4, rfl, rfl, HBi, HF, hC, hR⟩ := hrel
                  obtain ⟨hkL2, hL2⟩ := HLk.out L2 i HBi.out
                  by_cases hlt4 : i < n4
                  · have hiN : i < Nn.length := by rw [← HN4.out]; exact hlt4
                    obtain rfl := HA6.out (by omega)
                    obtain ⟨c0, c1⟩ := hR.2 i (plc Nn[i]) (by rw [List.getElem?_map, List.getElem?_eq_getElem hiN]; rfl)
                    have v64 := H64.out i hiN
                    have hbl := hR.1 (by rw [List.length_map]; omega)
                    have HSkp := Lib.hid (fun (hneg : ¬ (gR xs Nn[i] = true ∧ 0 ≤ joined xs Nn[i] ∧ (joined xs Nn[i]).toNat ∉ L2)) => HSk.out L2 i HBi.out hiN (fun hg h0 => Classical.byContradiction fun hq => hneg ⟨hg, h0, hq⟩))
                    have HAdd := Lib.hid (fun (hg : gR xs Nn[i] = true) (h0 : 0 ≤ joined xs Nn[i]) (hn : (joined xs Nn[i]).toNat ∉ L2) => HAd.out L2 i HBi.out hiN hg h0 hn)
                    have hjb := HBd.out Nn[i]
                    have HHv := Lib.hid (fun W hb => HHo.out W hb Nn[i] v64)
                    have HIx := Lib.hid (fun W => index_plc v64 ▸ CellF.sCellIndex (plc Nn[i]).1 (plc Nn[i]).2 W)
                    generalize Nn[i] = v at c0 c1 v64 HSkp HAdd hjb HHv HIx
                    obtain ⟨vx, hvx⟩ : ∃ q, q = (plc v).1 := ⟨_, rfl⟩
                    obtain ⟨vy, hvy⟩ : ∃ q, q = (plc v).2 := ⟨_, rfl⟩
                    rw [← hvx] at c0 HHv HIx
                    rw [← hvy] at c1 HHv HIx
                    clear hvx hvy HBi
                    go_wp2_with fail
                    refine (HIx.out _).mono ?_
                    rintro e w6 ⟨rfl, hb6⟩
                    have C6 := hC.on hb6
                    have R6 := hR.on hb6
                    have c0 := (hb6.cell (p := ⟨b6, off6 + i * 2, none⟩) hbl).trans c0
                    have c1 := (hb6.cell (p := ⟨b6, off6 + i * 2 + 1, none⟩) hbl).trans c1
                    have hvI : (v : Int) < 64 := by omega
                    have j0 := C6.a.rj.cell v64
                    unfold vJ at j0
                    clear hC hR hb6 hbl HIx
                    generalize joined xs v = q at j0 HSkp HAdd hjb
                    go_upto_region 28 with fail
                    clear j0
                    have CD := C6.drew
                    have RD : RdC w6.drew b6 off6 (Nn.map plc) := R6
                    have x0 := CD.a.box.c0
                    have x1 : w6.drew.cell? ⟨b6, off6 + i * 2, none⟩ = some (.int .i64 vx) := c0
                    have x2 : w6.drew.cell? ⟨b6, off6 + i * 2 + 1, none⟩ = some (.int .i64 vy) := c1
                    have hlb : b6 < w6.drew.heap.size := World.block_lt_of_cell? _ _ x1
                    clear C6 R6 c0 c1
                    refine wp_region_noPanic ?_
                    cases hgi : gR xs v with
                    | false =>
                      have HB2 := Lib.hid (HSkp.out (fun hh => by rw [hgi] at hh; exact absurd hh.1 (by simp)))
                      rw [hgi] at HHv
                      clear hgi HSkp HAdd
                      refine wp_region_held_drew (S := (fun w' => w'.cell? ⟨w.heap.size, 0, none⟩ = some (.slice A n cap) ∧ w'.cell? ⟨b6, off6 + i * 2, none⟩ = some (.int .i64 vx) ∧ w'.cell? ⟨b6, off6 + i * 2 + 1, none⟩ = some (.int .i64 vy))) (by kernel_rfl) ⟨x0, x1, x2⟩ (fun hHeld => ?_)
                      generalize w6.drew = WD at CD RD x0 x1 x2 hlb hHeld ⊢
                      have HHeld := Lib.hid (show ∀ w', Below WD.heap.size WD w' → w'.cell? ⟨w.heap.size, 0, none⟩ = some (.slice A n cap) ∧ w'.cell? ⟨b6, off6 + i * 2, none⟩ = some (.int .i64 vx) ∧ w'.cell? ⟨b6, off6 + i * 2 + 1, none⟩ = some (.int .i64 vy) from fun W hb => ⟨(hb.cell (p := ⟨w.heap.size, 0, none⟩) CD.a.box.lt).trans x0, (hb.cell (p := ⟨b6, off6 + i * 2, none⟩) hlb).trans x1, (hb.cell (p := ⟨b6, off6 + i * 2 + 1, none⟩) hlb).trans x2⟩)
                      have HCD := Lib.hid CD
                      have HRD := Lib.hid RD
                      clear x0 x1 x2 CD RD
                      refine wpAnyH_take (i := 0) (v := ?_) rfl (by kernel_rfl) (by kernel_rfl) (by kernel_rfl) (fun _ _ _ h => h) (Or.inl ⟨by rfl, ?_⟩) (by assumption) ?_
                      rotate_left
                      · (intro w' hS; (try dsimp only at hS); go_simp; try with_reducible rfl)
                      try simp only [Act.put, List.getElem_toArray, List.getElem_cons_succ, List.getElem_cons_zero, List.setIfInBounds_toArray, List.set_cons_zero, List.set_cons_succ]
                      refine wpAnyH_take (i := 1) (v := ?_) rfl (by kernel_rfl) (by kernel_rfl) (by kernel_rfl) (fun _ _ _ h => h) (Or.inl ⟨by rfl, ?_⟩) (by assumption) ?_
                      rotate_left
                      · (intro w' hS; (try dsimp only at hS); go_simp; try with_reducible rfl)
                      try simp only [Act.put, List.getElem_toArray, List.getElem_cons_succ, List.getElem_cons_zero, List.setIfInBounds_toArray, List.set_cons_zero, List.set_cons_succ]
                      refine wpAnyH_take (i := 2) (v := ?_) rfl (by kernel_rfl) (by kernel_rfl) (by kernel_rfl) (fun _ _ _ h => h) (Or.inl ⟨by rfl, ?_⟩) (by assumption) ?_
                      rotate_left
                      · (intro w' hS; (try dsimp only at hS); go_simp; try with_reducible rfl)
                      try simp only [Act.put, List.getElem_toArray, List.getElem_cons_succ, List.getElem_cons_zero, List.setIfInBounds_toArray, List.set_cons_zero, List.set_cons_succ]
                      refine wpAnyH_take (i := 3) (v := ?_) rfl (by kernel_rfl) (by kernel_rfl) (by kernel_rfl) (fun _ _ _ h => h) (Or.inl ⟨by rfl, ?_⟩) (by assumption) ?_
                      rotate_left
                      · (intro w' hS; (try dsimp only at hS); go_simp; try with_reducible rfl)
                      try simp only [Act.put, List.getElem_toArray, List.getElem_cons_succ, List.getElem_cons_zero, List.setIfInBounds_toArray, List.set_cons_zero, List.set_cons_succ]
                      refine wpAnyH_take (i := 4) (v := ?_) rfl (by kernel_rfl) (by kernel_rfl) (by kernel_rfl) (fun _ _ _ h => h) (Or.inl ⟨by rfl, ?_⟩) (by assumption) ?_
                      rotate_left
                      · (intro w' hS; (try dsimp only at hS); go_simp; try with_reducible rfl)
                      try simp only [Act.put, List.getElem_toArray, List.getElem_cons_succ, List.getElem_cons_zero, List.setIfInBounds_toArray, List.set_cons_zero, List.set_cons_succ]
                      refine wpAnyH_ready (rs := [5]) (by kernel_rfl) (by simp) ?_
                      refine (AllReadyH.cons rfl (fun K hK => ?_) AllReadyH.nil)
                      go_simp
                      refine (HHv.out _ HCD.out.a.bel).mono ?_
                      rintro e wx ⟨rfl, hbx⟩
                      have HCn := Lib.hid (HCD.out.on hbx)
                      have HRn := Lib.hid (HRD.out.on hbx)
                      go_wp2_with fail
                      refine hK.out _ _ (HHeld.out _ hbx) (fun hHeld => ?_)
                      clear hK K
                      try simp only [Act.put, List.getElem_toArray, List.getElem_cons_succ, List.getElem_cons_zero, List.setIfInBounds_toArray, List.set_cons_zero, List.set_cons_succ]
                      refine wpAnyH_take (i := 6) (v := ?_) rfl (by kernel_rfl) (by kernel_rfl) (by kernel_rfl) (fun _ _ _ h => h) (Or.inl ⟨by rfl, ?_⟩) (by assumption) ?_
                      rotate_left
                      · (intro w' hS; (try dsimp only at hS); go_simp; try with_reducible rfl)
                      try simp only [Act.put, List.getElem_toArray, List.getElem_cons_succ, List.getElem_cons_zero, List.setIfInBounds_toArray, List.set_cons_zero, List.set_cons_succ]
                      refine wpAnyH_take (i := 7) (v := undef) rfl (by kernel_rfl) (by kernel_rfl) (by kernel_rfl) (fun _ _ _ h => h) (Or.inr ⟨by rfl, rfl⟩) (by assumption) ?_
                      try simp only [Act.put, List.getElem_toArray, List.getElem_cons_succ, List.getElem_cons_zero, List.setIfInBounds_toArray, List.set_cons_zero, List.set_cons_succ]
                      refine wpAnyH_take (i := 8) (v := undef) rfl (by kernel_rfl) (by kernel_rfl) (by kernel_rfl) (fun _ _ _ h => h) (Or.inr ⟨by rfl, rfl⟩) (by assumption) ?_
                      try simp only [Act.put, List.getElem_toArray, List.getElem_cons_succ, List.getElem_cons_zero, List.setIfInBounds_toArray, List.set_cons_zero, List.set_cons_succ]
                      refine wpAnyH_take (i := 9) (v := ?_) rfl (by kernel_rfl) (by kernel_rfl) (by kernel_rfl) (fun _ _ _ h => h) (Or.inl ⟨by rfl, ?_⟩) (by assumption) ?_
                      rotate_left
                      · (intro w' hS; (try dsimp only at hS); go_simp; try with_reducible rfl)
                      try simp only [Act.put, List.getElem_toArray, List.getElem_cons_succ, List.getElem_cons_zero, List.setIfInBounds_toArray, List.set_cons_zero, List.set_cons_succ]
                      refine wpAnyH_take (i := 10) (v := ?_) rfl (by kernel_rfl) (by kernel_rfl) (by kernel_rfl) (fun _ _ _ h => h) (Or.inl ⟨by rfl, ?_⟩) (by assumption) ?_
                      rotate_left
                      · (intro w' hS; (try dsimp only at hS); go_simp; try with_reducible rfl)
                      try simp only [Act.put, List.getElem_toArray, List.getElem_cons_succ, List.getElem_cons_zero, List.setIfInBounds_toArray, List.set_cons_zero, List.set_cons_succ]
                      refine wpAnyH_take (i := 11) (v := undef) rfl (by kernel_rfl) (by kernel_rfl) (by kernel_rfl) (fun _ _ _ h => h) (Or.inr ⟨by rfl, rfl⟩) (by assumption) ?_
                      try simp only [Act.put, List.getElem_toArray, List.getElem_cons_succ, List.getElem_cons_zero, List.setIfInBounds_toArray, List.set_cons_zero, List.set_cons_succ]
                      refine wpAnyH_take (i := 12) (v := undef) rfl (by kernel_rfl) (by kernel_rfl) (by kernel_rfl) (fun _ _ _ h => h) (Or.inr ⟨by rfl, rfl⟩) (by assumption) ?_
                      try simp only [Act.put, List.getElem_toArray, List.getElem_cons_succ, List.getElem_cons_zero, List.setIfInBounds_toArray, List.set_cons_zero, List.set_cons_succ]
                      refine wpAnyH_take (i := 13) (v := undef) rfl (by kernel_rfl) (by kernel_rfl) (by kernel_rfl) (fun _ _ _ h => h) (Or.inr ⟨by rfl, rfl⟩) (by assumption) ?_
                      try simp only [Act.put, List.getElem_toArray, List.getElem_cons_succ, List.getElem_cons_zero, List.setIfInBounds_toArray, List.set_cons_zero, List.set_cons_succ]
                      refine wpAnyH_take (i := 14) (v := undef) rfl (by kernel_rfl) (by kernel_rfl) (by kernel_rfl) (fun _ _ _ h => h) (Or.inr ⟨by rfl, rfl⟩) (by assumption) ?_
                      try simp only [Act.put, List.getElem_toArray, List.getElem_cons_succ, List.getElem_cons_zero, List.setIfInBounds_toArray, List.set_cons_zero, List.set_cons_succ]
                      refine wpAnyH_take (i := 15) (v := undef) rfl (by kernel_rfl) (by kernel_rfl) (by kernel_rfl) (fun _ _ _ h => h) (Or.inr ⟨by rfl, rfl⟩) (by assumption) ?_
                      try simp only [Act.put, List.getElem_toArray, List.getElem_cons_succ, List.getElem_cons_zero, List.setIfInBounds_toArray, List.set_cons_zero, List.set_cons_succ]
                      refine wpAnyH_take (i := 16) (v := ?_) rfl (by kernel_rfl) (by kernel_rfl) (by kernel_rfl) (fun _ _ _ h => h) (Or.inl ⟨by rfl, ?_⟩) (by assumption) ?_
                      rotate_left
                      · (intro w' hS; (try dsimp only at hS); go_simp; try with_reducible rfl)
                      try simp only [Act.put, List.getElem_toArray, List.getElem_cons_succ, List.getElem_cons_zero, List.setIfInBounds_toArray, List.set_cons_zero, List.set_cons_succ]
                      refine wpAnyH_done (by kernel_rfl) ?_ _
                      refine NoPanic.normal ?_
                      clear hHeld
                      go_wp2
                      go_roundg (gk - 1)
                      case measure => omega
                      case rel => exact ⟨i + 1, c2, L2, A2, by omega, by go_num, rfl, HB2, HF, HCn.out, HRn.out⟩
                    | true =>
                      rw [hgi] at HHv
                      by_cases h0 : 0 ≤ q
                      · obtain ⟨y, rfl⟩ : ∃ y : Nat, q = (y : Int) := ⟨q.toNat, by omega⟩
                        have y64 : y < 64 := by omega
                        have yI : (y : Int) < 64 := by omega
                        rw [Int.toNat_natCast] at HSkp HAdd
                        have x3 := CD.rs.cell y64
                        unfold vZ at x3
                        obtain ⟨z, hz⟩ : ∃ z, z = zOf L2 y := ⟨_, rfl⟩
                        rw [← hz] at x3
                        have hls := CD.rs.lt
                        have HZ := Lib.hid hz
                        have HG := Lib.hid hgi
                        clear hz hgi
                        refine wp_region_held_drew (S := (fun w' => w'.cell? ⟨w.heap.size, 0, none⟩ = some (.slice A n cap) ∧ w'.cell? ⟨b6, off6 + i * 2, none⟩ = some (.int .i64 vx) ∧ w'.cell? ⟨b6, off6 + i * 2 + 1, none⟩ = some (.int .i64 vy) ∧ w'.cell? ⟨sb, y, none⟩ = some (.bool z))) (by kernel_rfl) ⟨x0, x1, x2, x3⟩ (fun hHeld => ?_)
                        generalize w6.drew = WD at CD RD x0 x1 x2 hlb hHeld x3 hls ⊢
                        have HHeld := Lib.hid (show ∀ w', Below WD.heap.size WD w' → w'.cell? ⟨w.heap.size, 0, none⟩ = some (.slice A n cap) ∧ w'.cell? ⟨b6, off6 + i * 2, none⟩ = some (.int .i64 vx) ∧ w'.cell? ⟨b6, off6 + i * 2 + 1, none⟩ = some (.int .i64 vy) ∧ w'.cell? ⟨sb, y, none⟩ = some (.bool z) from fun W hb => ⟨(hb.cell (p := ⟨w.heap.size, 0, none⟩) CD.a.box.lt).trans x0, (hb.cell (p := ⟨b6, off6 + i * 2, none⟩) hlb).trans x1, (hb.cell (p := ⟨b6, off6 + i * 2 + 1, none⟩) hlb).trans x2, (hb.cell (p := ⟨sb, y, none⟩) hls).trans x3⟩)
                        have HCD := Lib.hid CD
                        have HRD := Lib.hid RD
                        clear x0 x1 x2 CD RD x3
                        refine wpAnyH_take (i := 0) (v := ?_) rfl (by kernel_rfl) (by kernel_rfl) (by kernel_rfl) (fun _ _ _ h => h) (Or.inl ⟨by rfl, ?_⟩) (by assumption) ?_
                        rotate_left
                        · (intro w' hS; (try dsimp only at hS); go_simp; try with_reducible rfl)
                        try simp only [Act.put, List.getElem_toArray, List.getElem_cons_succ, List.getElem_cons_zero, List.setIfInBounds_toArray, List.set_cons_zero, List.set_cons_succ]
                        refine wpAnyH_take (i := 1) (v := ?_) rfl (by kernel_rfl) (by kernel_rfl) (by kernel_rfl) (fun _ _ _ h => h) (Or.inl ⟨by rfl, ?_⟩) (by assumption) ?_
                        rotate_left
                        · (intro w' hS; (try dsimp only at hS); go_simp; try with_reducible rfl)
                        try simp only [Act.put, List.getElem_toArray, List.getElem_cons_succ, List.getElem_cons_zero, List.setIfInBounds_toArray, List.set_cons_zero, List.set_cons_succ]
                        refine wpAnyH_take (i := 2) (v := ?_) rfl (by kernel_rfl) (by kernel_rfl) (by kernel_rfl) (fun _ _ _ h => h) (Or.inl ⟨by rfl, ?_⟩) (by assumption) ?_
                        rotate_left
                        · (intro w' hS; (try dsimp only at hS); go_simp; try with_reducible rfl)
                        try simp only [Act.put, List.getElem_toArray, List.getElem_cons_succ, List.getElem_cons_zero, List.setIfInBounds_toArray, List.set_cons_zero, List.set_cons_succ]
                        refine wpAnyH_take (i := 3) (v := ?_) rfl (by kernel_rfl) (by kernel_rfl) (by kernel_rfl) (fun _ _ _ h => h) (Or.inl ⟨by rfl, ?_⟩) (by assumption) ?_
                        rotate_left
                        · (intro w' hS; (try dsimp only at hS); go_simp; try with_reducible rfl)
                        try simp only [Act.put, List.getElem_toArray, List.getElem_cons_succ, List.getElem_cons_zero, List.setIfInBounds_toArray, List.set_cons_zero, List.set_cons_succ]
                        refine wpAnyH_take (i := 4) (v := ?_) rfl (by kernel_rfl) (by kernel_rfl) (by kernel_rfl) (fun _ _ _ h => h) (Or.inl ⟨by rfl, ?_⟩) (by assumption) ?_
                        rotate_left
                        · (intro w' hS; (try dsimp only at hS); go_simp; try with_reducible rfl)
                        try simp only [Act.put, List.getElem_toArray, List.getElem_cons_succ, List.getElem_cons_zero, List.setIfInBounds_toArray, List.set_cons_zero, List.set_cons_succ]
                        refine wpAnyH_ready (rs := [5]) (by kernel_rfl) (by simp) ?_
                        refine (AllReadyH.cons rfl (fun K hK => ?_) AllReadyH.nil)
                        go_simp
                        refine (HHv.out _ HCD.out.a.bel).mono ?_
                        rintro e wx ⟨rfl, hbx⟩
                        have HCn := Lib.hid (HCD.out.on hbx)
                        have HRn := Lib.hid (HRD.out.on hbx)
                        go_wp2_with fail
                        refine hK.out _ _ (HHeld.out _ hbx) (fun hHeld => ?_)
                        clear hK K
                        try simp only [Act.put, List.getElem_toArray, List.getElem_cons_succ, List.getElem_cons_zero, List.setIfInBounds_toArray, List.set_cons_zero, List.set_cons_succ]
                        refine wpAnyH_take (i := 6) (v := ?_) rfl (by kernel_rfl) (by kernel_rfl) (by kernel_rfl) (fun _ _ _ h => h) (Or.inl ⟨by rfl, ?_⟩) (by assumption) ?_
                        rotate_left
                        · (intro w' hS; (try dsimp only at hS); go_simp; try with_reducible rfl)
                        try simp only [Act.put, List.getElem_toArray, List.getElem_cons_succ, List.getElem_cons_zero, List.setIfInBounds_toArray, List.set_cons_zero, List.set_cons_succ]
                        refine wpAnyH_take (i := 7) (v := ?_) rfl (by kernel_rfl) (by kernel_rfl) (by kernel_rfl) (fun _ _ _ h => h) (Or.inl ⟨by rfl, ?_⟩) (by assumption) ?_
                        rotate_left
                        · (intro w' hS; (try dsimp only at hS); go_simp; try with_reducible rfl)
                        try simp only [Act.put, List.getElem_toArray, List.getElem_cons_succ, List.getElem_cons_zero, List.setIfInBounds_toArray, List.set_cons_zero, List.set_cons_succ]
                        refine wpAnyH_take (i := 8) (v := ?_) rfl (by kernel_rfl) (by kernel_rfl) (by kernel_rfl) (fun _ _ _ h => h) (Or.inl ⟨by rfl, ?_⟩) (by assumption) ?_
                        rotate_left
                        · (intro w' hS; (try dsimp only at hS); go_simp; try with_reducible rfl)
                        try simp only [Act.put, List.getElem_toArray, List.getElem_cons_succ, List.getElem_cons_zero, List.setIfInBounds_toArray, List.set_cons_zero, List.set_cons_succ]
                        refine wpAnyH_take (i := 9) (v := ?_) rfl (by kernel_rfl) (by kernel_rfl) (by kernel_rfl) (fun _ _ _ h => h) (Or.inl ⟨by rfl, ?_⟩) (by assumption) ?_
                        rotate_left
                        · (intro w' hS; (try dsimp only at hS); go_simp; try with_reducible rfl)
                        try simp only [Act.put, List.getElem_toArray, List.getElem_cons_succ, List.getElem_cons_zero, List.setIfInBounds_toArray, List.set_cons_zero, List.set_cons_succ]
                        refine wpAnyH_take (i := 10) (v := ?_) rfl (by kernel_rfl) (by kernel_rfl) (by kernel_rfl) (fun _ _ _ h => h) (Or.inl ⟨by rfl, ?_⟩) (by assumption) ?_
                        rotate_left
                        · (intro w' hS; (try dsimp only at hS); go_simp; try with_reducible rfl)
                        try simp only [Act.put, List.getElem_toArray, List.getElem_cons_succ, List.getElem_cons_zero, List.setIfInBounds_toArray, List.set_cons_zero, List.set_cons_succ]
                        refine wpAnyH_take (i := 11) (v := ?_) rfl (by kernel_rfl) (by kernel_rfl) (by kernel_rfl) (fun _ _ _ h => h) (Or.inl ⟨by rfl, ?_⟩) (by assumption) ?_
                        rotate_left
                        · (intro w' hS; (try dsimp only at hS); go_simp; try with_reducible rfl)
                        try simp only [Act.put, List.getElem_toArray, List.getElem_cons_succ, List.getElem_cons_zero, List.setIfInBounds_toArray, List.set_cons_zero, List.set_cons_succ]
                        refine wpAnyH_take (i := 12) (v := ?_) rfl (by kernel_rfl) (by kernel_rfl) (by kernel_rfl) (fun _ _ _ h => h) (Or.inl ⟨by rfl, ?_⟩) (by assumption) ?_
                        rotate_left
                        · (intro w' hS; (try dsimp only at hS); go_simp; try with_reducible rfl)
                        try simp only [Act.put, List.getElem_toArray, List.getElem_cons_succ, List.getElem_cons_zero, List.setIfInBounds_toArray, List.set_cons_zero, List.set_cons_succ]
                        refine wpAnyH_take (i := 13) (v := ?_) rfl (by kernel_rfl) (by kernel_rfl) (by kernel_rfl) (fun _ _ _ h => h) (Or.inl ⟨by rfl, ?_⟩) (by assumption) ?_
                        rotate_left
                        · (intro w' hS; (try dsimp only at hS); go_simp; try with_reducible rfl)
                        try simp only [Act.put, List.getElem_toArray, List.getElem_cons_succ, List.getElem_cons_zero, List.setIfInBounds_toArray, List.set_cons_zero, List.set_cons_succ]
                        refine wpAnyH_take (i := 14) (v := ?_) rfl (by kernel_rfl) (by kernel_rfl) (by kernel_rfl) (fun _ _ _ h => h) (Or.inl ⟨by rfl, ?_⟩) (by assumption) ?_
                        rotate_left
                        · (intro w' hS; (try dsimp only at hS); go_simp; try with_reducible rfl)
                        try simp only [Act.put, List.getElem_toArray, List.getElem_cons_succ, List.getElem_cons_zero, List.setIfInBounds_toArray, List.set_cons_zero, List.set_cons_succ]
                        refine wpAnyH_take (i := 15) (v := ?_) rfl (by kernel_rfl) (by kernel_rfl) (by kernel_rfl) (fun _ _ _ h => h) (Or.inl ⟨by rfl, ?_⟩) (by assumption) ?_
                        rotate_left
                        · (intro w' hS; (try dsimp only at hS); go_simp; try with_reducible rfl)
                        try simp only [Act.put, List.getElem_toArray, List.getElem_cons_succ, List.getElem_cons_zero, List.setIfInBounds_toArray, List.set_cons_zero, List.set_cons_succ]
                        refine wpAnyH_take (i := 16) (v := ?_) rfl (by kernel_rfl) (by kernel_rfl) (by kernel_rfl) (fun _ _ _ h => h) (Or.inl ⟨by rfl, ?_⟩) (by assumption) ?_
                        rotate_left
                        · (intro w' hS; (try dsimp only at hS); go_simp; try with_reducible rfl)
                        try simp only [Act.put, List.getElem_toArray, List.getElem_cons_succ, List.getElem_cons_zero, List.setIfInBounds_toArray, List.set_cons_zero, List.set_cons_succ]
                        refine wpAnyH_done (by kernel_rfl) ?_ _
                        refine NoPanic.normal ?_
                        clear hHeld
                        cases z with
                        | true =>
                          have HB2 := Lib.hid (HSkp.out (fun hh => hh.2.2 (of_decide_eq_true HZ.out.symm)))
                          clear HZ HSkp HAdd HG
                          go_wp2
                          go_roundg (gk - 1)
                          case measure => omega
                          case rel => exact ⟨i + 1, c2, L2, A2, by omega, by go_num, rfl, HB2, HF, HCn.out, HRn.out⟩
                        | false =>
                          have HB2 := Lib.hid (HAdd.out HG.out (by omega) (of_decide_eq_false HZ.out.symm))
                          have s0 := HCn.out.rs.cell y64
                          have sf := HCn.out.rs.frozen y
                          unfold vZ at s0
                          have D7 := HCn.out.mark y64
                          have hbs : sb ≠ b6 := by have := HLow6.out (by omega); omega
                          have R7 := HRn.out.grown (grown_set wx sb y (.bool true)) (fun _ => hbs)
                          have HCa := Lib.hid (fun W => HCat.out y y64 W)
                          clear HZ HG HSkp HAdd HCn HRn HCD HRD HHeld HHv
                          go_upto_region 30 with fail
                          generalize wx.setCell ⟨sb, y, none⟩ (.bool true) = w7 at D7 R7 ⊢
                          clear s0 sf
                          obtain ⟨yx, hyx⟩ : ∃ q, q = (plc y).1 := ⟨_, rfl⟩
                          obtain ⟨yy, hyy⟩ : ∃ q, q = (plc y).2 := ⟨_, rfl⟩
                          rw [← hyx, ← hyy] at HCa
                          have HY := Lib.hid (And.intro hyx hyy)
                          clear hyx hyy
                          go_wp2_with fail
                          refine (HCa.out _).mono ?_
                          rintro e w8 ⟨rfl, hb8⟩
                          have D8 := D7.on hb8
                          have R8 := R7.on hb8
                          clear D7 R7 hb8 HCa
                          have D9 := D8.on (below_alloc1 w8 (.cells #[.int .i64 yx, .int .i64 yy] 33))
                          have R9 := R8.on (below_alloc1 w8 (.cells #[.int .i64 yx, .int .i64 yy] 33))
                          have Y9 := At2.new w8 yx yy
                          go_upto_region 31 with fail
                          generalize w8.alloc (.cells #[.int .i64 yx, .int .i64 yy] 33) = w9 at D9 R9 Y9 ⊢
                          generalize w8.heap.size = p8 at Y9 ⊢
                          clear D8 R8
                          have y0 := Y9.c0
                          have y1 := Y9.c1
                          have hsl := D9.rs.lt
                          go_wp2_with (first
                            | (at_builtin; refine wpList_append_lies _ rfl _ _ 28 rfl (sb + 1) 33 i0 (.agg #[.int .i64 0, .int .i64 0]) 2 16 Tryd.underlying28 hi hz0 hz1 hz2 rfl (by decide) (.slice A2 L2.length c2) L2.length (rowC (L2.map plc)) (by rfl) (D9.li.alloc _) ⟨w9.heap.size, 0, none⟩ 1 1 [.int .i64 yx, .int .i64 yy] (by rfl) rfl (World.news_of_block (cs := #[.int .i64 yx, .int .i64 yy]) (t := 33) (fr := (0, 0)) (heap_alloc_new w9 _)) (by simp [Value.oneCell']) (by decide) (by unfold maxLen; omega) (by omega) (by simp; omega) (w9.heap.size + 1) (by simp) ?_; intro g5 c5 w10 hown5 hgrow5 hat5 hlt5))
                          have DA := D9.on (below_alloc1 w9 (.cells #[.int .i64 yx, .int .i64 yy] 33))
                          have RA := R9.on (below_alloc1 w9 (.cells #[.int .i64 yx, .int .i64 yy] 33))
                          rw [HY.out.1, HY.out.2] at hown5
                          have CB := DA.push (x := y) hown5 hgrow5
                          have hnl : (Nn.map plc).length = n4 := by rw [List.length_map, HN4.out]
                          have RB : RdC w10 b6 off6 (Nn.map plc) := RA.same hgrow5.size (fun h0 => hgrow5.block b6 (RA.1 h0) (fun e => HF.out (by omega) e.symm))
                          have HF5 := Lib.hid (show 0 < n4 → (Value.slice (some (⟨g5, 0, none⟩ : Addr)) (L2 ++ [y]).length c5).ownBlock ≠ some b6 from fun h0 e => by
                            injection e with e
                            have e : g5 = b6 := e
                            rcases hat5 with q | q
                            · exact HF.out h0 (by rw [q, e])
                            · have := R9.1 (by omega); omega)
                          have hln : (L2 ++ [y]).length = L2.length + 1 := by rw [List.length_append]; rfl
                          clear hown5 hgrow5 hat5 hlt5 D9 DA R9 RA Y9 y0 y1
                          go_wp2
                          go_roundg (gk - 1)
                          case measure => omega
                          case rel => exact ⟨i + 1, c5, L2 ++ [y], some ⟨g5, 0, none⟩, by omega, by go_num, by rw [hln], HB2, HF5, CB, RB⟩
                      · have HB2 := Lib.hid (HSkp.out (fun hh => h0 hh.2.1))
                        have hq0 : q < 0 := by omega
                        have hq1 : decide (0 ≤ q) = false := decide_eq_false h0
                        clear hgi HSkp HAdd
                        refine wp_region_held_drew (S := (fun w' => w'.cell? ⟨w.heap.size, 0, none⟩ = some (.slice A n cap) ∧ w'.cell? ⟨b6, off6 + i * 2, none⟩ = some (.int .i64 vx) ∧ w'.cell? ⟨b6, off6 + i * 2 + 1, none⟩ = some (.int .i64 vy))) (by kernel_rfl) ⟨x0, x1, x2⟩ (fun hHeld => ?_)
                        generalize w6.drew = WD at CD RD x0 x1 x2 hlb hHeld ⊢
                        have HHeld := Lib.hid (show ∀ w', Below WD.heap.size WD w' → w'.cell? ⟨w.heap.size, 0, none⟩ = some (.slice A n cap) ∧ w'.cell? ⟨b6, off6 + i * 2, none⟩ = some (.int .i64 vx) ∧ w'.cell? ⟨b6, off6 + i * 2 + 1, none⟩ = some (.int .i64 vy) from fun W hb => ⟨(hb.cell (p := ⟨w.heap.size, 0, none⟩) CD.a.box.lt).trans x0, (hb.cell (p := ⟨b6, off6 + i * 2, none⟩) hlb).trans x1, (hb.cell (p := ⟨b6, off6 + i * 2 + 1, none⟩) hlb).trans x2⟩)
                        have HCD := Lib.hid CD
                        have HRD := Lib.hid RD
                        clear x0 x1 x2 CD RD
                        refine wpAnyH_take (i := 0) (v := ?_) rfl (by kernel_rfl) (by kernel_rfl) (by kernel_rfl) (fun _ _ _ h => h) (Or.inl ⟨by rfl, ?_⟩) (by assumption) ?_
                        rotate_left
                        · (intro w' hS; (try dsimp only at hS); go_simp; try with_reducible rfl)
                        try simp only [Act.put, List.getElem_toArray, List.getElem_cons_succ, List.getElem_cons_zero, List.setIfInBounds_toArray, List.set_cons_zero, List.set_cons_succ]
                        refine wpAnyH_take (i := 1) (v := ?_) rfl (by kernel_rfl) (by kernel_rfl) (by kernel_rfl) (fun _ _ _ h => h) (Or.inl ⟨by rfl, ?_⟩) (by assumption) ?_
                        rotate_left
                        · (intro w' hS; (try dsimp only at hS); go_simp; try with_reducible rfl)
                        try simp only [Act.put, List.getElem_toArray, List.getElem_cons_succ, List.getElem_cons_zero, List.setIfInBounds_toArray, List.set_cons_zero, List.set_cons_succ]
                        refine wpAnyH_take (i := 2) (v := ?_) rfl (by kernel_rfl) (by kernel_rfl) (by kernel_rfl) (fun _ _ _ h => h) (Or.inl ⟨by rfl, ?_⟩) (by assumption) ?_
                        rotate_left
                        · (intro w' hS; (try dsimp only at hS); go_simp; try with_reducible rfl)
                        try simp only [Act.put, List.getElem_toArray, List.getElem_cons_succ, List.getElem_cons_zero, List.setIfInBounds_toArray, List.set_cons_zero, List.set_cons_succ]
                        refine wpAnyH_take (i := 3) (v := ?_) rfl (by kernel_rfl) (by kernel_rfl) (by kernel_rfl) (fun _ _ _ h => h) (Or.inl ⟨by rfl, ?_⟩) (by assumption) ?_
                        rotate_left
                        · (intro w' hS; (try dsimp only at hS); go_simp; try with_reducible rfl)
                        try simp only [Act.put, List.getElem_toArray, List.getElem_cons_succ, List.getElem_cons_zero, List.setIfInBounds_toArray, List.set_cons_zero, List.set_cons_succ]
                        refine wpAnyH_take (i := 4) (v := ?_) rfl (by kernel_rfl) (by kernel_rfl) (by kernel_rfl) (fun _ _ _ h => h) (Or.inl ⟨by rfl, ?_⟩) (by assumption) ?_
                        rotate_left
                        · (intro w' hS; (try dsimp only at hS); go_simp; try with_reducible rfl)
                        try simp only [Act.put, List.getElem_toArray, List.getElem_cons_succ, List.getElem_cons_zero, List.setIfInBounds_toArray, List.set_cons_zero, List.set_cons_succ]
                        refine wpAnyH_ready (rs := [5]) (by kernel_rfl) (by simp) ?_
                        refine (AllReadyH.cons rfl (fun K hK => ?_) AllReadyH.nil)
                        go_simp
                        refine (HHv.out _ HCD.out.a.bel).mono ?_
                        rintro e wx ⟨rfl, hbx⟩
                        have HCn := Lib.hid (HCD.out.on hbx)
                        have HRn := Lib.hid (HRD.out.on hbx)
                        go_wp2_with fail
                        refine hK.out _ _ (HHeld.out _ hbx) (fun hHeld => ?_)
                        clear hK K
                        try simp only [Act.put, List.getElem_toArray, List.getElem_cons_succ, List.getElem_cons_zero, List.setIfInBounds_toArray, List.set_cons_zero, List.set_cons_succ]
                        refine wpAnyH_take (i := 6) (v := ?_) rfl (by kernel_rfl) (by kernel_rfl) (by kernel_rfl) (fun _ _ _ h => h) (Or.inl ⟨by rfl, ?_⟩) (by assumption) ?_
                        rotate_left
                        · (intro w' hS; (try dsimp only at hS); go_simp; try with_reducible rfl)
                        try simp only [Act.put, List.getElem_toArray, List.getElem_cons_succ, List.getElem_cons_zero, List.setIfInBounds_toArray, List.set_cons_zero, List.set_cons_succ]
                        refine wpAnyH_take (i := 7) (v := ?_) rfl (by kernel_rfl) (by kernel_rfl) (by kernel_rfl) (fun _ _ _ h => h) (Or.inl ⟨by rfl, ?_⟩) (by assumption) ?_
                        rotate_left
                        · (intro w' hS; (try dsimp only at hS); go_simp; try with_reducible rfl)
                        try simp only [Act.put, List.getElem_toArray, List.getElem_cons_succ, List.getElem_cons_zero, List.setIfInBounds_toArray, List.set_cons_zero, List.set_cons_succ]
                        refine wpAnyH_take (i := 8) (v := ?_) rfl (by kernel_rfl) (by kernel_rfl) (by kernel_rfl) (fun _ _ _ h => h) (Or.inl ⟨by rfl, ?_⟩) (by assumption) ?_
                        rotate_left
                        · (intro w' hS; (try dsimp only at hS); go_simp; try with_reducible rfl)
                        try simp only [Act.put, List.getElem_toArray, List.getElem_cons_succ, List.getElem_cons_zero, List.setIfInBounds_toArray, List.set_cons_zero, List.set_cons_succ]
                        refine wpAnyH_take (i := 9) (v := ?_) rfl (by kernel_rfl) (by kernel_rfl) (by kernel_rfl) (fun _ _ _ h => h) (Or.inl ⟨by rfl, ?_⟩) (by assumption) ?_
                        rotate_left
                        · (intro w' hS; (try dsimp only at hS); go_simp; try with_reducible rfl)
                        try simp only [Act.put, List.getElem_toArray, List.getElem_cons_succ, List.getElem_cons_zero, List.setIfInBounds_toArray, List.set_cons_zero, List.set_cons_succ]
                        refine wpAnyH_take (i := 10) (v := ?_) rfl (by kernel_rfl) (by kernel_rfl) (by kernel_rfl) (fun _ _ _ h => h) (Or.inl ⟨by rfl, ?_⟩) (by assumption) ?_
                        rotate_left
                        · (intro w' hS; (try dsimp only at hS); go_simp; try with_reducible rfl)
                        try simp only [Act.put, List.getElem_toArray, List.getElem_cons_succ, List.getElem_cons_zero, List.setIfInBounds_toArray, List.set_cons_zero, List.set_cons_succ]
                        refine wpAnyH_take (i := 11) (v := undef) rfl (by kernel_rfl) (by kernel_rfl) (by kernel_rfl) (fun _ _ _ h => h) (Or.inr ⟨by rfl, rfl⟩) (by assumption) ?_
                        try simp only [Act.put, List.getElem_toArray, List.getElem_cons_succ, List.getElem_cons_zero, List.setIfInBounds_toArray, List.set_cons_zero, List.set_cons_succ]
                        refine wpAnyH_take (i := 12) (v := undef) rfl (by kernel_rfl) (by kernel_rfl) (by kernel_rfl) (fun _ _ _ h => h) (Or.inr ⟨by rfl, rfl⟩) (by assumption) ?_
                        try simp only [Act.put, List.getElem_toArray, List.getElem_cons_succ, List.getElem_cons_zero, List.setIfInBounds_toArray, List.set_cons_zero, List.set_cons_succ]
                        refine wpAnyH_take (i := 13) (v := undef) rfl (by kernel_rfl) (by kernel_rfl) (by kernel_rfl) (fun _ _ _ h => h) (Or.inr ⟨by rfl, rfl⟩) (by assumption) ?_
                        try simp only [Act.put, List.getElem_toArray, List.getElem_cons_succ, List.getElem_cons_zero, List.setIfInBounds_toArray, List.set_cons_zero, List.set_cons_succ]
                        refine wpAnyH_take (i := 14) (v := undef) rfl (by kernel_rfl) (by kernel_rfl) (by kernel_rfl) (fun _ _ _ h => h) (Or.inr ⟨by rfl, rfl⟩) (by assumption) ?_
                        try simp only [Act.put, List.getElem_toArray, List.getElem_cons_succ, List.getElem_cons_zero, List.setIfInBounds_toArray, List.set_cons_zero, List.set_cons_succ]
                        refine wpAnyH_take (i := 15) (v := undef) rfl (by kernel_rfl) (by kernel_rfl) (by kernel_rfl) (fun _ _ _ h => h) (Or.inr ⟨by rfl, rfl⟩) (by assumption) ?_
                        try simp only [Act.put, List.getElem_toArray, List.getElem_cons_succ, List.getElem_cons_zero, List.setIfInBounds_toArray, List.set_cons_zero, List.set_cons_succ]
                        refine wpAnyH_take (i := 16) (v := ?_) rfl (by kernel_rfl) (by kernel_rfl) (by kernel_rfl) (fun _ _ _ h => h) (Or.inl ⟨by rfl, ?_⟩) (by assumption) ?_
                        rotate_left
                        · (intro w' hS; (try dsimp only at hS); go_simp; try with_reducible rfl)
                        try simp only [Act.put, List.getElem_toArray, List.getElem_cons_succ, List.getElem_cons_zero, List.setIfInBounds_toArray, List.set_cons_zero, List.set_cons_succ]
                        refine wpAnyH_done (by kernel_rfl) ?_ _
                        refine NoPanic.normal ?_
                        clear hHeld
                        go_wp2
                        go_roundg (gk - 1)
                        case measure => omega
                        case rel => exact ⟨i + 1, c2, L2, A2, by omega, by go_num, rfl, HB2, HF, HCn.out, HRn.out⟩
                  · obtain rfl : i = n4 := by omega
                    have HBf := Lib.hid (HCl.out L2 i HBi.out (by rw [← HN4.out]; exact Nat.le_refl _))
                    clear HBi hR
                    go_wp2
                    go_roundg (65 - (k + 1))
                    case measure => omega
                    case rel => exact ⟨k + 1, c2, L2, A2, by omega, by go_num, rfl, HBf, Lib.hid (by omega), hC⟩
              · obtain rfl : k = L.length := by have := HKl.out; omega
                have HE := Lib.hid (HFin.out L _ HB.out (Nat.le_refl _))
                have HC := Lib.hid hC
                have HO := Lib.hid hC.a.out
                have HRs := Lib.hid hC.rs
                clear hC HB HKl
                generalize zOf L = Z at *
                go_wp2_with fail
                go_loopg [3, 17] 64 (fun gg v i wr => ∃ (t g c : Nat), t + gg = 64 ∧ i = .int .i64 t ∧ v = .slice (some ⟨g, 0, none⟩) (outK Z t).length c ∧ wr.ownsRow (w.heap.size + 1) 33 2 (.slice (some ⟨g, 0, none⟩) (outK Z t).length c) (outK Z t).length (rowC (outK Z t)) ∧ RowV 4 wr sb (vZ Z) ∧ Below w.heap.size w wr)
                case atStart => exact ⟨0, w.heap.size + 1, 0, by omega, rfl, rfl, HO.out, HRs.out, HC.out.a.bel⟩
                case round =>
                  clear HO HC HRs
                  obtain ⟨t, g, c, ht, rfl, rfl, hO, hs, hb⟩ := hrel
                  have hot := outK_len Z t
                  by_cases hlt5 : t < 64
                  · have z0 := hs.cell hlt5
                    unfold vZ at z0
                    have HNo := Lib.hid (fun hh => outK_no (Z := Z) (t := t) hh)
                    have HYe := Lib.hid (fun hh => outK_yes (Z := Z) (t := t) hh)
                    have HCa := Lib.hid (fun W => HCat.out t hlt5 W)
                    generalize Z t = z at z0 HNo HYe
                    generalize hT : outK Z t = T at hO hot HNo HYe ⊢
                    clear hT
                    cases z with
                    | false =>
                      have HT2 := Lib.hid (HNo.out rfl)
                      have HS := Lib.hid (And.intro hO (And.intro hs hb))
                      clear HNo HYe HCa hO hs hb
                      go_wp2
                      go_roundg (gk - 1)
                      case measure => omega
                      case rel => exact ⟨t + 1, g, c, by omega, by go_num, by rw [HT2.out], by rw [HT2.out]; exact HS.out.1, HS.out.2.1, HS.out.2.2⟩
                    | true =>
                      obtain ⟨tx, htx⟩ : ∃ q, q = (plc t).1 := ⟨_, rfl⟩
                      obtain ⟨ty, hty⟩ : ∃ q, q = (plc t).2 := ⟨_, rfl⟩
                      have HT2 := Lib.hid (show outK Z (t + 1) = T ++ [(tx, ty)] by rw [HYe.out rfl, htx, hty])
                      rw [← htx, ← hty] at HCa
                      clear htx hty HNo HYe
                      go_wp2_with fail
                      refine (HCa.out _).mono ?_
                      rintro e w8 ⟨rfl, hb8⟩
                      have O8 := Reg.own_below hO hb8 (Nat.le_refl _)
                      have S8 := hs.on hb8
                      have B8 := hb.trans (hb8.mono hb.size)
                      clear hO hs hb hb8 HCa z0
                      have O9 := Reg.own_below O8 (below_alloc1 w8 (.cells #[.int .i64 tx, .int .i64 ty] 33)) (Nat.le_refl _)
                      have S9 := S8.on (below_alloc1 w8 (.cells #[.int .i64 tx, .int .i64 ty] 33))
                      have B9 := B8.alloc B8.size (.cells #[.int .i64 tx, .int .i64 ty] 33)
                      have Y9 := At2.new w8 tx ty
                      go_upto_region 37 with fail
                      generalize w8.alloc (.cells #[.int .i64 tx, .int .i64 ty] 33) = w9 at O9 S9 B9 Y9 ⊢
                      generalize w8.heap.size = p8 at Y9 ⊢
                      clear O8 S8 B8
                      have y0 := Y9.c0
                      have y1 := Y9.c1
                      have hol := O9.lt g rfl
                      go_wp2_with (first
                        | (at_builtin; refine wpList_append_lies _ rfl _ _ 28 rfl (w.heap.size + 1) 33 i0 (.agg #[.int .i64 0, .int .i64 0]) 2 16 Tryd.underlying28 hi hz0 hz1 hz2 rfl (by decide) (.slice (some ⟨g, 0, none⟩) T.length c) T.length (rowC T) (by rfl) (O9.alloc _) ⟨w9.heap.size, 0, none⟩ 1 1 [.int .i64 tx, .int .i64 ty] (by rfl) rfl (World.news_of_block (cs := #[.int .i64 tx, .int .i64 ty]) (t := 33) (fr := (0, 0)) (heap_alloc_new w9 _)) (by simp [Value.oneCell']) (by decide) (by unfold maxLen; omega) (by omega) (by simp; omega) (w9.heap.size + 1) (by simp) ?_; intro g5 c5 w10 hown5 hgrow5 hat5 hlt6))
                      have hfar := row_far O9 S9
                      have SA := S9.on (below_alloc1 w9 (.cells #[.int .i64 tx, .int .i64 ty] 33))
                      have SB : RowV 4 w10 sb (vZ Z) := SA.same (hgrow5.block sb SA.lt (fun e => by injection e with e; exact hfar e))
                      have BB := (B9.alloc B9.size (.cells #[.int .i64 tx, .int .i64 ty] 33)).grown hgrow5 (by have := B9.size; simp; omega) (fun q e => by injection e with e; have e : g = q := e; omega)
                      have hln : (T ++ [(tx, ty)]).length = T.length + 1 := by rw [List.length_append]; rfl
                      have R := Lib.hid (show w10.ownsRow (w.heap.size + 1) 33 2 (.slice (some ⟨g5, 0, none⟩) (T ++ [(tx, ty)]).length c5) (T ++ [(tx, ty)]).length (rowC (T ++ [(tx, ty)])) by
                        rw [rowC_snoc, hln]; exact hown5)
                      clear hown5 hgrow5 hat5 hlt6 O9 S9 SA B9 Y9 y0 y1
                      go_wp2
                      go_roundg (gk - 1)
                      case measure => omega
                      case rel => exact ⟨t + 1, g5, c5, by omega, by go_num, by rw [HT2.out, hln], by rw [HT2.out]; exact R.out, SB, BB⟩
                  · obtain rfl : t = 64 := by omega
                    have HO := Lib.hid hO
                    have HB := Lib.hid hb
                    clear hO hs hb hot
                    go_wp2
                    go_ret
                    rw [HE.out] at HO ⊢
                    exact ⟨_, _, rfl, Reg.own_base HO.out (by omega), HB.out⟩
  · rw [okRB_not ho] at HOk
    have HE := Lib.hid (witR_not ho)
    clear HJ HH HC HLn ho
    go_enter Tryd.func27, Tryd.ntmps27
    go_wp2_with fail
    generalize (w.alloc (.cells #[.slice A n cap] 26)).alloc (.cells #[] 33) = W1 at B1 R1 O1 ⊢
    refine (HOk.out _ B1).mono ?_
    rintro e w2 ⟨rfl, hb2⟩
    have B2 := B1.trans (hb2.mono B1.size)
    have HO2 := Lib.hid (Reg.own_below O1 hb2 (Nat.le_refl _))
    clear B1 R1 O1 hb2 HOk
    go_wp2
    go_ret
    rw [HE.out]
    exact ⟨_, _, rfl, Reg.own_base HO2.out (by omega), B2⟩
end Go.Proofs.YtgkgdgchkhdgjaaDoor.Def

/- The law FnExactWitnessOf returns true: the program's WitnessOf and the model's list the same cells of every region; the region is left as it was, and the program's answers own their memory. -/
namespace Go.Proofs.YtgkgdgchkhdgjaaDoor.Def
set_option linter.unusedVariables false
open Go.RowKit Go.Proofs.YtgkgdgchkhdgjaaDoor.Base Go.Proofs.YtgkgdgchkhdgjaaDoor.Pure Go.Proofs.YtgkgdgchkhdgjaaDoor.Cell Go.Proofs.YtgkgdgchkhdgjaaDoor.Cels Go.Proofs.YtgkgdgchkhdgjaaDoor.Sets Go.Proofs.YtgkgdgchkhdgjaaDoor.Reg Go.Joins

set_option maxRecDepth 100000 in
set_option maxHeartbeats 4000000 in
theorem lawWitnessOf (w : World) (A : Option Addr) (n cap : Nat) (xs : List Int) (hx : xs.length = n) (hn : (n : Int) ≤ 9223372036854775807) (h : RowB w w.heap.size A xs) (hT : Tab w) :
    Calls Tryd.prog 5 #[.agg #[.slice A n cap]] w (Yes w) := by
  have T0 := Lib.hid (fun T => rb_start (T := T) (.slice A n cap) w)
  have HZ := Lib.hid (fun W => szRegion A n cap 1048576 (by omega) (by omega) hn W)
  by_cases hs : (n : Int) ≤ 1048576
  · have HTo := Lib.hid (fun W (hb : Below w.heap.size w W) => toRegion W A n cap w.heap.size xs hx hs (h.below hb (Nat.le_refl _)) hb.size)
    have HEq := Lib.hid (fun W A A' c c' (h1 : RowB W W.heap.size A xs) (h2 : RowB W W.heap.size A' xs) => eqRegion W A A' n c c' _ _ xs hx hn h1 h2 (Nat.le_refl _) (Nat.le_refl _))
    have HS := Lib.hid (fun W A c (h1 : RowB W W.heap.size A xs) => sWitnessOf W A n c W.heap.size xs hx hn h1 (Nat.le_refl _))
    have HI := Lib.hid (fun W (hb : Below w.heap.size w W) A c (h1 : RowB W W.heap.size A xs) => iWitnessOf W A n c W.heap.size xs hx hn h1 (Nat.le_refl _) (hT.on hb (Nat.le_refl _)))
    have hz := szR_yes hs
    generalize szR 1048576 n = z at HZ hz
    obtain ⟨z0, z1⟩ := hz
    have z2 : ¬ z < 0 := by omega
    have HL := witR_length xs
    generalize witR xs = L at HS HI HL
    obtain ⟨m, hm⟩ : ∃ m, m = L.length := ⟨_, rfl⟩
    unfold Cels.NbPost at HS HI
    rw [← hm] at HS HI HL
    have HE := Lib.hid (fun (W : World) (B B' : Option Addr) (c c' : Nat) (h1 : RowC W B L) (h2 : RowC W B' L) => eqRows W B B' m c c' L hm.symm (by omega) h1 h2)
    obtain ⟨k1, hk1⟩ : ∃ k1 : Int, k1 = ((1 + n : Nat) : Int) := ⟨_, rfl⟩
    have hk0 : ¬ k1 < 0 := by omega
    have HMx := Lib.hid (fun W lo hi A c (hr : RowIn W lo hi 3 1 (.slice A n c) n (ints xs)) => markReg1 W lo hi n c A xs k1 hk1 (by omega) hr)
    obtain ⟨g1, hg1⟩ : ∃ g1 : Int, g1 = ((1 + 2 * m : Nat) : Int) := ⟨_, rfl⟩
    have hg0 : ¬ g1 < 0 := by omega
    have hgg : (g1 != g1) = false := by simp
    have HMg := Lib.hid (fun W lo A c (hr : W.ownsRow lo 33 2 (.slice A m c) m (rowC L)) hlo => mark1 W lo m c A L g1 hg1 (by omega) hr hlo)
    have HHg := Lib.hid (fun W A c (hr : RowC W A (marksC 1 m)) => held1 W m c A g1 hg1 (by omega) hr)
    clear hs hx hn h hT hm hk1 hg1 HL
    go_enter Tryd.func5, Tryd.ntmps5
    go_wp2_with fail
    have T1 := T0.out 38
    clear T0
    refine (HZ.out _).mono ?_
    rintro e w1 ⟨rfl, hb1⟩
    have T2 := T1.on hb1
    clear T1 hb1 HZ
    obtain ⟨_, _, c0⟩ := id T2
    go_wp2_with fail
    refine (HTo.out _ T2.1).mono ?_
    rintro e w2 ⟨A1, cap1, rfl, hown, hb2⟩
    have T3 := T2.on hb2
    have HR1 := Lib.hid (rowB_own hown)
    clear T2 hown hb2 c0
    go_wp2_with fail
    refine (HS.out _ _ _ HR1.out).mono ?_
    rintro e w3 ⟨Aw, capw, rfl, hown, hb3⟩
    have hl2 := T3.2.1
    have T4 := T3.on hb3
    have HW := Lib.hid (rowIn_new hown)
    have hw3 := hb3.size
    clear T3 hb3 HS HR1 hown
    obtain ⟨_, _, c0⟩ := id T4
    go_wp2_with fail
    refine (HTo.out _ T4.1).mono ?_
    rintro e w4 ⟨A2, cap2, rfl, hown, hb4⟩
    have T5 := T4.on hb4
    have hw4 := hb4.size
    have S0 := Lib.hid (fun T => ls_start (T := T) T5 (rowIn_new hown) (HW.out.on hb4))
    clear T4 hown hb4 c0 T5 HW
    go_wp2_with fail
    have S1 := S0.out 26
    clear S0
    have hlg : w4.heap.size + 1 = (w4.alloc (.cells #[.slice A2 n cap2] 26)).heap.size := by simp
    refine (HI.out _ S1.1 _ _ (rowB_own S1.x.1)).mono ?_
    rintro e w5 ⟨Ag, capg, rfl, hown, hb5⟩
    rw [← hlg] at hown
    have HG := Lib.hid (rowIn_new hown)
    have hw5 := hb5.size
    rw [← hlg] at hw5
    have S2 := S1.on hb5
    clear S1 hb5 hown hlg
    generalize hp : w4.heap.size = p at S2 HG hw4 hw5 ⊢
    clear hp
    go_wp2_with fail
    refine (HE.out _ _ _ _ _ (rowC_own HG.out.1) (rowC_own S2.ans.1)).mono ?_
    rintro e w6 ⟨rfl, hb6⟩
    have S3 := S2.on hb6
    have HG3 := Lib.hid (HG.out.on hb6)
    have hw6 := hb6.size
    clear S2 HG hb6
    go_wp2_with fail
    go_region_held3 (fun w' => Below w.heap.size w w' ∧ w.heap.size + 1 ≤ w'.heap.size ∧ w'.cell? ⟨w.heap.size, 0, none⟩ = some (.slice A n cap) ∧ w'.cell? ⟨p, 0, none⟩ = some (.slice A2 n cap2) ∧ (p < w'.heap.size ∧ RowIn w' w3.heap.size p 3 1 (.slice A2 n cap2) n (ints xs) ∧ RowIn w' w2.heap.size w3.heap.size 33 2 (.slice Aw m capw) m (rowC L)))
      (first | assumption | exact LS.drew (by assumption) | exact LS.on (by assumption) (by assumption))
      (first | (go_at_call 20; refine (HTo.out _ (LS.rb (by assumption)).1).mono ?_; rintro e wx ⟨A3, cap3, rfl, hown, hbx⟩; (have HRx := Lib.hid (rowB_own hown)); clear hown) | (go_at_call 23; refine (HEq.out _ _ _ _ _ (rowB_own (LS.x (by assumption)).1) HRx.out).mono ?_; rintro e wy ⟨rfl, hby⟩))
    all_goals
      have S4 : LS w (.slice A n cap) p (.slice A2 n cap2) w3.heap.size p n (ints xs) w2.heap.size w3.heap.size 33 2 (.slice Aw m capw) m (rowC L) wy := by assumption
      have HG4 := Lib.hid (show RowIn wy (p + 1) w5.heap.size 33 2 (.slice Ag m capg) m (rowC L) from ((RowIn.drew HG3.out).on hbx).on hby)
      have hw7 : w5.heap.size ≤ wy.heap.size := by have h1 := hbx.size; have h2 := hby.size; have h3 : w6.drew.heap.size = w6.heap.size := rfl; omega
      clear S3 HG3 HRx hbx hby HEq hw6
      obtain ⟨_, _, _, c1, _⟩ := id S4
      go_wp2_with fail
      refine (HMx.out _ _ _ _ _ S4.x).mono ?_
      rintro e w7 ⟨rfl, hx7, ha7⟩
      have S5 := S4.marked hx7 ha7 (by omega) (Nat.le_refl _) (Nat.le_refl _)
      have HG5 := Lib.hid (HG4.out.apart ha7 (.inr (by omega)))
      have hw8 := ha7.size
      clear S4 HG4 hx7 ha7 HMx c1
      go_wp2_with fail
      refine (HE.out _ _ _ _ _ (rowC_own HG5.out.1) (rowC_own S5.ans.1)).mono ?_
      rintro e w8 ⟨rfl, hb8⟩
      have S6 := S5.on hb8
      have HG6 := Lib.hid (HG5.out.on hb8)
      have hw9 := hb8.size
      clear S5 HG5 hb8
      go_wp2_with fail
      refine (HMg.out _ _ _ _ HG6.out.1 (by omega)).mono ?_
      rintro e w9 ⟨rfl, hg9, hb9⟩
      have S7 := S6.onB hb9 (by omega) (by omega) (by omega) (by omega)
      have HG7 := Lib.hid (show RowIn w9 (p + 1) w5.heap.size 33 2 (.slice Ag m capg) m (rowC (marksC 1 m)) from ⟨hg9, HG6.out.2⟩)
      have hw10 := hb9.size
      clear S6 HG6 hg9 hb9 HMg
      go_wp2_with fail
      refine (HHg.out _ _ _ (rowC_own HG7.out.1)).mono ?_
      rintro e w10 ⟨rfl, rfl⟩
      obtain ⟨_, _, c0, _⟩ := id S7
      go_wp2_with fail
      refine (HTo.out _ S7.1).mono ?_
      rintro e w11 ⟨A5, cap5, rfl, hown, hb11⟩
      have S8 := S7.on hb11
      have HG8 := Lib.hid (HG7.out.on hb11)
      have HR5 := Lib.hid (rowB_own hown)
      clear S7 HG7 hown hb11 c0
      go_wp2_with fail
      refine (HI.out _ S8.1 _ _ HR5.out).mono ?_
      rintro e w12 ⟨Ah, caph, rfl, hown, hb12⟩
      have S9 := S8.on hb12
      have HG9 := Lib.hid (HG8.out.on hb12)
      have HH := Lib.hid hown
      clear S8 HG8 hown hb12 HR5
      go_wp2_with fail
      refine (HE.out _ _ _ _ _ (rowC_own HH.out) (rowC_own S9.ans.1)).mono ?_
      rintro e w13 ⟨rfl, hb13⟩
      have HG10 := Lib.hid (HG9.out.on hb13)
      have hb := (S9.on hb13).1
      clear S9 HG9 hb13 HH
      go_wp2_with fail
      refine (HHg.out _ _ _ (rowC_own HG10.out.1)).mono ?_
      rintro e w14 ⟨rfl, rfl⟩
      go_wp2
      go_ret
      exact ⟨rfl, hb⟩
  · rw [szR_no hs] at HZ
    clear hs hx hn h
    go_enter Tryd.func5, Tryd.ntmps5
    go_wp2_with fail
    have T1 := T0.out 38
    clear T0
    refine (HZ.out _).mono ?_
    rintro e w1 ⟨rfl, hb1⟩
    have hb := (T1.on hb1).1
    clear T1 hb1 HZ
    go_wp2
    go_ret
    exact ⟨rfl, hb⟩
end Go.Proofs.YtgkgdgchkhdgjaaDoor.Def
