/- DefW, SetK, Cls, Unb, Wit in one text. -/
import Derived.Test.YtgkgdgchkhdgjaaDoorMgDfL
import Derived.Test.YtgkgdgchkhdgjaaDoorSetC
import Derived.Shelf.Spec.TrailingZeros
import Derived.Lib.LaidTab
import Derived.Test.YtgkgdgchkhdgjaaDoorMgArd
import Derived.Laws.AppendOwn
import Derived.Laws.OwnMore
import Derived.Test.YtgkgdgchkhdgjaaDoorMgWay
import Derived.BigQuiet
import Derived.Deep.QuietTactic
import Derived.Deep.LoopGhost
import Derived.Deep.AppendLies

/- The list of black cells that are reached, pure: it grows while it is walked: no program here. -/
namespace Go.Proofs.YtgkgdgchkhdgjaaDoor.Def
set_option linter.unusedVariables false
set_option linter.unusedSimpArgs false
open Go.Proofs.YtgkgdgchkhdgjaaDoor.Pure Go.Proofs.YtgkgdgchkhdgjaaDoor.Kun Go.Proofs.YtgkgdgchkhdgjaaDoor.KuL Go.Proofs.YtgkgdgchkhdgjaaDoor.Sets Go.Proofs.YtgkgdgchkhdgjaaDoor.Mat Go.Joins
open Go.Proofs.YtgkgdgchkhdgjaaDoor.Cnt (adj adj_comm gR)

/-- all neighbors of the first k have been looked at. -/
structure Bf (xs : List Int) (J : Nat → Int) (L : List Nat) (k : Nat) : Prop where
  nd : L.Nodup
  rch : ∀ u ∈ L, Rch xs J u
  fr : ∀ u, u < 64 → frB xs J u = true → u ∈ L
  done : ∀ i u, i < k → L[i]? = some u → ∀ w, w < 64 → adj u w = true → gR xs w = true → 0 ≤ J w → (J w).toNat ∈ L
/-- and the first i of the next one's. -/
structure Bi (xs : List Int) (J : Nat → Int) (L : List Nat) (k u i : Nat) : Prop where
  bf : Bf xs J L k
  at_ : L[k]? = some u
  here : ∀ w ∈ (nbN u).take i, gR xs w = true → 0 ≤ J w → (J w).toNat ∈ L
section
variable {xs : List Int} {J : Nat → Int} {L : List Nat} {k u i : Nat}
theorem Bf.open (h : Bf xs J L k) (hu : L[k]? = some u) : Bi xs J L k u 0 := ⟨h, hu, fun w hw => by simp at hw⟩
theorem Bi.skip (h : Bi xs J L k u i) (hi : i < (nbN u).length) (hs : gR xs (nbN u)[i] = true → 0 ≤ J (nbN u)[i] → (J (nbN u)[i]).toNat ∈ L) : Bi xs J L k u (i + 1) := by
  refine ⟨h.bf, h.at_, fun w hw hg h0 => ?_⟩
  rw [List.take_succ_eq_append_getElem hi, List.mem_append] at hw
  rcases hw with hw | hw
  · exact h.here w hw hg h0
  · rw [List.mem_singleton.1 hw] at hg h0 ⊢
    exact hs hg h0
theorem Bi.add (h : Bi xs J L k u i) (hi : i < (nbN u).length) (hg : gR xs (nbN u)[i] = true) (h0 : 0 ≤ J (nbN u)[i]) (hn : (J (nbN u)[i]).toNat ∉ L) : Bi xs J (L ++ [(J (nbN u)[i]).toNat]) k u (i + 1) := by
  obtain ⟨hw, ha⟩ := mem_nbN.1 (List.getElem_mem hi)
  have hkl : k < L.length := (List.getElem?_eq_some_iff.1 h.at_).1
  refine ⟨⟨?_, fun x hx => ?_, fun x hx hf => List.mem_append_left _ (h.bf.fr x hx hf), fun j x hj hx w w1 w2 w3 w4 => ?_⟩, ?_, fun w hw2 hg2 h02 => ?_⟩
  · rw [List.nodup_append]
    refine ⟨h.bf.nd, List.nodup_cons.2 ⟨by simp, List.nodup_nil⟩, fun a ha b hb e => ?_⟩
    rw [List.mem_singleton.1 hb] at e
    exact hn (e ▸ ha)
  · rcases List.mem_append.1 hx with hx | hx
    · exact h.bf.rch x hx
    · rw [List.mem_singleton.1 hx]
      exact Rch.step (h.bf.rch u (List.mem_of_getElem? h.at_)) hw ha hg h0
  · rw [List.getElem?_append_left (by omega)] at hx
    exact List.mem_append_left _ (h.bf.done j x hj hx w w1 w2 w3 w4)
  · rw [List.getElem?_append_left hkl]; exact h.at_
  · rw [List.take_succ_eq_append_getElem hi, List.mem_append] at hw2
    rcases hw2 with hw2 | hw2
    · exact List.mem_append_left _ (h.here w hw2 hg2 h02)
    · rw [List.mem_singleton.1 hw2]
      exact List.mem_append_right _ (List.mem_singleton.2 rfl)
theorem Bi.close (h : Bi xs J L k u i) (hi : (nbN u).length ≤ i) : Bf xs J L (k + 1) := by
  refine ⟨h.bf.nd, h.bf.rch, h.bf.fr, fun j x hj hx w w1 w2 w3 w4 => ?_⟩
  by_cases e : j = k
  · subst e
    rw [h.at_] at hx
    injection hx with hx
    subst hx
    refine h.here w ?_ w3 w4
    rw [List.take_of_length_le hi]
    exact mem_nbN.2 ⟨w1, w2⟩
  · exact h.bf.done j x (by omega) hx w w1 w2 w3 w4
theorem Bf.lt (hm : Mc (gR xs) col (Blk xs) J) (h : Bf xs J L k) : ∀ x ∈ L, x < 64 ∧ Blk xs x = true := fun x hx => (h.rch x hx).blk hm
theorem Bf.len (hm : Mc (gR xs) col (Blk xs) J) (h : Bf xs J L k) : L.length ≤ 64 := by
  have h1 := List.Nodup.length_le_of_subset h.nd (l₂ := List.range 64) (fun x hx => List.mem_range.2 (h.lt hm x hx).1)
  rw [List.length_range] at h1
  exact h1
/-- the free ones are the first. -/
theorem Bf.start (hn : L.Nodup) (hl : ∀ x, x ∈ L ↔ x < 64 ∧ frB xs J x = true) : Bf xs J L 0 :=
  ⟨hn, fun x hx => Rch.free ((hl x).1 hx).1 ((hl x).1 hx).2, fun x h1 h2 => (hl x).2 ⟨h1, h2⟩, fun j x hj => by omega⟩
end
/-- when all have been looked at. -/
theorem Bf.fin {xs : List Int} {L : List Nat} {k : Nat} (h : Bf xs (joined xs) L k) (hk : L.length ≤ k) : (fun u => decide (u ∈ L)) = witB xs :=
  wit_of (fun x h1 h2 => decide_eq_true (h.fr x h1 h2)) (fun x hx => h.rch x (of_decide_eq_true hx)) (fun x w hx w1 w2 w3 w4 => by
    have hx := of_decide_eq_true hx
    obtain ⟨j, hj, e⟩ := List.getElem_of_mem hx
    exact decide_eq_true (h.done j x (by omega) (by rw [List.getElem?_eq_getElem hj, e]) w w1 w2 w3 w4))
/-- the black cells of the first t that no domino covers. -/
def frs0 (xs : List Int) (J : Nat → Int) (t : Nat) : List Nat := ((idl xs).take t).filter fun u => col u && !isT J u
theorem frs0_no {xs : List Int} {J : Nat → Int} {t : Nat} (ht : t < (idl xs).length) (h : (col (idl xs)[t] && !isT J (idl xs)[t]) = false) : frs0 xs J (t + 1) = frs0 xs J t := by
  unfold frs0; rw [List.take_succ_eq_append_getElem ht, List.filter_append, List.filter_cons_of_neg (by rw [h]; simp), List.filter_nil, List.append_nil]
theorem frs0_yes {xs : List Int} {J : Nat → Int} {t : Nat} (ht : t < (idl xs).length) (h : (col (idl xs)[t] && !isT J (idl xs)[t]) = true) : frs0 xs J (t + 1) = frs0 xs J t ++ [(idl xs)[t]] := by
  unfold frs0; rw [List.take_succ_eq_append_getElem ht, List.filter_append, List.filter_cons_of_pos (by exact h), List.filter_nil]
theorem frs0_bf {xs : List Int} (ho : okR xs) {J : Nat → Int} {t : Nat} (ht : (idl xs).length ≤ t) : Bf xs J (frs0 xs J t) 0 := by
  refine Bf.start ?_ (fun x => ?_)
  · unfold frs0
    exact List.Pairwise.filter _ ((idl_nodup xs).sublist (List.take_sublist _ _))
  · unfold frs0
    rw [List.take_of_length_le ht, List.mem_filter]
    unfold idl
    rw [if_pos (okRB_iff.2 ho)]
    unfold Cnt.idxs frB
    rw [List.mem_filter, List.mem_range, Bool.and_eq_true, Bool.and_eq_true, blk_iff]
    exact ⟨fun h => ⟨h.1.1, ⟨h.1.2, h.2.1⟩, h.2.2⟩, fun h => ⟨⟨h.1, h.2.1.1⟩, h.2.1.2, h.2.2⟩⟩
/-- the first t places of a set, as cells. -/
def outK (Z : Nat → Bool) (t : Nat) : List (Int × Int) := ((List.range t).filter Z).map plc
theorem outK_no {Z : Nat → Bool} {t : Nat} (h : Z t = false) : outK Z (t + 1) = outK Z t := by
  unfold outK; rw [List.range_succ, List.filter_append, List.filter_cons_of_neg (by rw [h]; simp), List.filter_nil, List.append_nil]
theorem outK_yes {Z : Nat → Bool} {t : Nat} (h : Z t = true) : outK Z (t + 1) = outK Z t ++ [plc t] := by
  unfold outK; rw [List.range_succ, List.filter_append, List.filter_cons_of_pos h, List.filter_nil, List.map_append]; rfl
theorem outK_all {xs : List Int} (ho : okR xs) : outK (witB xs) 64 = witR xs := by rw [witR_ok ho]; rfl
/-- the black places that the first t cells of a table name. -/
def isTk (J : Nat → Int) (t u : Nat) : Bool := (List.range t).any fun i => decide (J i = (u : Int))
theorem isTk_all (J : Nat → Int) : isTk J 64 = isT J := rfl
theorem isTk_zero (J : Nat → Int) : isTk J 0 = fun _ => false := by funext u; rfl
theorem isTk_no {J : Nat → Int} {t : Nat} (h : J t < 0) : isTk J (t + 1) = isTk J t := by
  funext u
  unfold isTk
  rw [List.range_succ, List.any_append]
  have : decide (J t = (u : Int)) = false := decide_eq_false (by omega)
  simp [this]
theorem isTk_yes {J : Nat → Int} {t : Nat} (h : 0 ≤ J t) : isTk J (t + 1) = put (isTk J t) (J t).toNat true := by
  funext u
  unfold isTk put
  rw [List.range_succ, List.any_append]
  by_cases e : u = (J t).toNat
  · rw [if_pos e]
    have : decide (J t = (u : Int)) = true := decide_eq_true (by omega)
    simp [this]
  · rw [if_neg e]
    have : decide (J t = (u : Int)) = false := decide_eq_false (by omega)
    simp [this]
end Go.Proofs.YtgkgdgchkhdgjaaDoor.Def

/- Sets of cells, the program's: the least place of a set, its cell. -/
namespace Go.Proofs.YtgkgdgchkhdgjaaDoor.Sets
set_option linter.unusedVariables false
set_option linter.unusedSimpArgs false
open Go.RowKit Go.Proofs.YtgkgdgchkhdgjaaDoor.Base Go.Proofs.YtgkgdgchkhdgjaaDoor.Pure Go.Proofs.YtgkgdgchkhdgjaaDoor.Cell Go.Proofs.YtgkgdgchkhdgjaaDoor.CellF Go.Proofs.YtgkgdgchkhdgjaaDoor.Cels Go.Proofs.YtgkgdgchkhdgjaaDoor.Dom Go.Proofs.YtgkgdgchkhdgjaaDoor.Dms Go.Proofs.YtgkgdgchkhdgjaaDoor.Til Go.Joins
open Go.Proofs.YtgkgdgchkhdgjaaDoor.Reg hiding Yes add_none

/-- the library's table of sixty-four places. -/
def tabZ : List Int := Lib.deBruijn64tab.map Int.ofNat
def Tab (w : World) : Prop := Lib.TabIs Tryd.prog w "math/bits.deBruijn64tab" .u8 tabZ
theorem gTab : Tryd.prog.globalNamed "math/bits.deBruijn64tab" = some 0 := by kernel_rfl
theorem tab_at : ∀ k, k < 64 → tabZ.getD k 0 = ((Lib.deBruijn64tab.getD k 0 : Nat) : Int) := by decide +kernel
theorem Tab.cell {w : World} (h : Tab w) {k : Nat} (hk : k < 64) : w.cell? ⟨0, k, none⟩ = some (.int .u8 ((Lib.deBruijn64tab.getD k 0 : Nat) : Int)) := by
  rw [← tab_at k hk]
  exact Lib.TabIs.cell h gTab k (by have : tabZ.length = 64 := by decide +kernel
                                    omega)
theorem Tab.lt {w : World} (h : Tab w) : 0 < w.heap.size := World.block_lt_of_cell? w _ (h.cell (k := 0) (by omega))
theorem Tab.same {w w' : World} (h : Tab w) (hb : w'.heap[0]? = w.heap[0]?) : Tab w' := by
  unfold Tab Lib.TabIs World.var? at *
  rw [gTab] at *
  simp only [Option.bind_some] at *
  rw [hb]; exact h
theorem Tab.on {w w' : World} {B : Nat} (h : Tab w) (hb : Below B w w') (hB : w.heap.size ≤ B) : Tab w' := h.same (hb.block _ (Nat.lt_of_lt_of_le h.lt hB))

set_option maxHeartbeats 1000000 in
theorem iTz_core (x k idx : Nat) (w : World) (hx0 : ((x : Int) == 0) = false)
    (key : IntKind.u64.wrap (bits BinOp.and IntKind.u64 (x : Int) (IntKind.u64.wrap (-(x : Int))) * 285870213051353865) / 288230376151711744 = (idx : Int))
    (hi : idx < 64) (hk : k < 64) (hcell : w.cell? ⟨0, idx, none⟩ = some (.int .u8 (k : Int))) :
    Calls Tryd.prog 74 #[.int .u64 (x : Int)] w fun e w' => e = .returned (.int .i64 (k : Int)) ∧ w' = w := by
  go_enter Tryd.func74, Tryd.ntmps74
  go_wp2_with (simp only [key])
  go_ret
  exact ⟨rfl, rfl⟩
theorem iTz (x : Nat) (h0 : x ≠ 0) (hx : x < 18446744073709551616) (w : World) (hT : Tab w) :
    Calls Tryd.prog 74 #[.int .u64 (x : Int)] w fun e w' => e = .returned (.int .i64 ((Lib.ctz 64 x : Nat) : Int)) ∧ w' = w := by
  obtain ⟨hlow, hk⟩ := Lib.lowest_bit 64 x h0 hx
  obtain ⟨hi, htab⟩ := Lib.deBruijn64_at _ hk
  have hcell := hT.cell hi
  rw [htab] at hcell
  exact iTz_core x _ _ w (by simp; omega) (tz64_key x _ hx h0 hlow) hi hk hcell

/-- an answer: the least cell of a set. -/
def CelOf (k : Nat) (w : World) (e : Ending) (w' : World) : Prop := e = .returned (.agg #[.int .i64 (plc k).1, .int .i64 (plc k).2]) ∧ Below w.heap.size w w'
set_option maxHeartbeats 1000000 in
theorem iFirst (x : Nat) (h0 : x ≠ 0) (hx : x < 18446744073709551616) (w : World) (hT : Tab w) :
    Calls Tryd.prog 62 #[.int .u64 (x : Int)] w (CelOf (Lib.ctz 64 x) w) := by
  have HZ := Lib.hid (fun W (hb : Below w.heap.size w W) => iTz x h0 hx W (hT.on hb (Nat.le_refl _)))
  have hk := (ctz_is h0 hx).1
  have HA := Lib.hid (fun W => iCellAt ((Lib.ctz 64 x : Nat) : Int) W)
  have HS := Lib.hid (fun (o : Obj) => below_alloc1 w o)
  generalize Lib.ctz 64 x = k at HZ hk HA ⊢
  obtain ⟨e1, e2⟩ := atX_plc hk
  have HE := Lib.hid (And.intro e1 e2)
  clear e1 e2 h0 hx hT
  obtain ⟨kk, hkk⟩ : ∃ kk : Int, kk = (k : Int) := ⟨_, rfl⟩
  rw [← hkk] at HZ HA HE
  clear hkk hk
  go_enter Tryd.func62, Tryd.ntmps62
  go_wp2_with fail
  have hb0 := HS.out (.cells #[.int .i64 0, .int .i64 0] 33)
  refine (HZ.out _ hb0).mono ?_
  rintro e w1 ⟨rfl, hw⟩
  have hw := hw.symm
  subst hw
  go_wp2_with fail
  have K0 := At2.new w 0 0
  generalize w.alloc (.cells #[.int .i64 0, .int .i64 0] 33) = W0 at hb0 K0 ⊢
  refine (HA.out _).mono ?_
  rintro e w2 ⟨rfl, hb2⟩
  have HP := Lib.hid (rfl : plc k = plc k)
  have HE2 := Lib.hid (show ∀ a b : Int, a = atX kk → b = atY kk → a = (plc k).1 ∧ b = (plc k).2 from fun a b h1 h2 => ⟨h1.trans HE.out.1, h2.trans HE.out.2⟩)
  have K2 := K0.on hb2
  have hbw := hb0.trans (hb2.mono hb0.size)
  clear HA HE HZ HS hb0 K0 hb2
  obtain ⟨u, hu⟩ : ∃ u, u = atX kk := ⟨_, rfl⟩
  obtain ⟨v, hv⟩ : ∃ v, v = atY kk := ⟨_, rfl⟩
  have HE3 := Lib.hid (HE2.out u v hu hv)
  rw [← hu, ← hv]
  clear hu hv HE2
  have hlt := K2.lt
  have K3 := K2.on (below_alloc1 w2 (.cells #[.int .i64 u, .int .i64 v] 33))
  have N3 := At2.new w2 u v
  have hbw3 := hbw.trans ((below_alloc1 w2 (.cells #[.int .i64 u, .int .i64 v] 33)).mono hbw.size)
  go_upto_region 2 with fail
  generalize w2.alloc (.cells #[.int .i64 u, .int .i64 v] 33) = W3 at K3 N3 hbw3 ⊢
  generalize w2.heap.size = p3 at N3 ⊢
  have n0 := N3.c0
  have n1 := N3.c1
  have f0 := K3.f0
  have f1 := K3.f1
  have c0 := K3.c0
  have c1 := K3.c1
  have K4 := K3.put (a := u) (b := v)
  have hbw4 := (hbw3.setCell (p := ⟨w.heap.size, 0, none⟩) (Nat.le_refl _) (.int .i64 u)).setCell (p := ⟨w.heap.size, 1, none⟩) (Nat.le_refl _) (.int .i64 v)
  have d0 := K4.c0
  have d1 := K4.c1
  go_wp2
  exact bodyPost_ret (v := .agg #[.int .i64 u, .int .i64 v]) (by simp [results, Tryd.results62, go_sem, d0, d1]) rfl ⟨by rw [HE3.out.1, HE3.out.2], hbw4⟩
end Go.Proofs.YtgkgdgchkhdgjaaDoor.Sets

/- The cells of a set, the program's; WhiteAround, the program's. -/
namespace Go.Proofs.YtgkgdgchkhdgjaaDoor.Def
set_option linter.unusedVariables false
set_option linter.unusedSimpArgs false
set_option maxRecDepth 100000
open Go.RowKit Go.Proofs.YtgkgdgchkhdgjaaDoor.Base Go.Proofs.YtgkgdgchkhdgjaaDoor.Pure Go.Proofs.YtgkgdgchkhdgjaaDoor.Cell Go.Proofs.YtgkgdgchkhdgjaaDoor.Cels Go.Proofs.YtgkgdgchkhdgjaaDoor.Dom Go.Proofs.YtgkgdgchkhdgjaaDoor.Dms Go.Proofs.YtgkgdgchkhdgjaaDoor.Sets Go.Proofs.YtgkgdgchkhdgjaaDoor.Kun Go.Proofs.YtgkgdgchkhdgjaaDoor.KuL Go.Proofs.YtgkgdgchkhdgjaaDoor.Til Go.Proofs.YtgkgdgchkhdgjaaDoor.Mat Go.Joins
open Go.Proofs.YtgkgdgchkhdgjaaDoor.Reg hiding Yes add_none RC rc_start

/-- the least place taken out. -/
theorem bt_drop {x : Nat} (h0 : x ≠ 0) (hx : x < 18446744073709551616) (i : Nat) : bt (x &&& (x - 1)) i = (bt x i && !decide (i = Go.Lib.ctz 64 x)) := by
  obtain ⟨m, hm, hk⟩ := Go.Lib.ctzFrom_spec 64 x (by omega) (by rw [← top_is]; exact hx)
  have e : Go.Lib.ctz 64 x = Go.Lib.ctzFrom 64 x := by unfold Go.Lib.ctz; rw [if_neg h0]
  rw [← e] at hm hk
  generalize Go.Lib.ctz 64 x = k at hm hk ⊢
  have hp : 0 < 2 ^ k := Nat.two_pow_pos k
  have e1 : x = 2 ^ (k + 1) * m + 2 ^ k := by rw [hm, Nat.pow_succ, Nat.mul_add, Nat.mul_one, Nat.mul_assoc]
  have e2 : x - 1 = 2 ^ (k + 1) * m + (2 ^ k - 1) := by rw [e1]; omega
  have l1 : 2 ^ k < 2 ^ (k + 1) := by rw [Nat.pow_succ]; omega
  have l2 : 2 ^ k - 1 < 2 ^ (k + 1) := by omega
  rw [Sets.bt_and, e2]
  conv => lhs; arg 1; rw [e1]
  conv => rhs; rw [e1]
  unfold bt
  rw [Nat.testBit_two_pow_mul_add m l1, Nat.testBit_two_pow_mul_add m l2, Nat.testBit_two_pow, Nat.testBit_two_pow_sub_one]
  by_cases h : i < k + 1
  · rw [if_pos h, if_pos h]
    by_cases q : k = i
    · subst q; simp
    · simp [q]
  · rw [if_neg h, if_neg h]
    have : ¬ i = k := by omega
    simp [this]
theorem outK_skip {Z : Nat → Bool} {k : Nat} : ∀ (d : Nat), (∀ i, k ≤ i → i < k + d → Z i = false) → outK Z (k + d) = outK Z k
  | 0, _ => rfl
  | d + 1, h => by
    rw [← Nat.add_assoc, outK_no (h (k + d) (by omega) (by omega)), outK_skip d (fun i h1 h2 => h i h1 (by omega))]
theorem outK_jump {Z : Nat → Bool} {k j : Nat} (h : k ≤ j) (hn : ∀ i, k ≤ i → i < j → Z i = false) (hy : Z j = true) : outK Z (j + 1) = outK Z k ++ [plc j] := by
  rw [outK_yes hy]
  obtain ⟨d, rfl⟩ : ∃ d, j = k + d := ⟨j - k, by omega⟩
  rw [outK_skip d hn]
theorem outK_length (Z : Nat → Bool) (k : Nat) : (outK Z k).length ≤ k := by
  unfold outK
  rw [List.length_map]
  exact Nat.le_trans (List.length_filter_le _ _) (by rw [List.length_range]; exact Nat.le_refl _)
/-- what is left from place k on. -/
def Cs (x k s : Nat) : Prop := k ≤ 64 ∧ s < 18446744073709551616 ∧ ∀ i, bt s i = (decide (k ≤ i) && bt x i)
theorem Cs.start {x : Nat} (hx : x < 18446744073709551616) : Cs x 0 x := ⟨by omega, hx, fun i => by simp⟩
theorem Cs.next {x k s : Nat} (h : Cs x k s) (h0 : s ≠ 0) : Cs x (Go.Lib.ctz 64 s + 1) (s &&& (s - 1)) ∧ outK (bt x) (Go.Lib.ctz 64 s + 1) = outK (bt x) k ++ [plc (Go.Lib.ctz 64 s)] ∧ s &&& (s - 1) < s := by
  obtain ⟨h1, h2, h3⟩ := h
  obtain ⟨c1, c2, c3⟩ := ctz_is h0 h2
  have hd := bt_drop h0 h2
  generalize Go.Lib.ctz 64 s = j at c1 c2 c3 hd ⊢
  have q := h3 j
  rw [c2] at q
  have q2 := (Bool.and_eq_true _ _).mp q.symm
  have hkj : k ≤ j := of_decide_eq_true q2.1
  refine ⟨⟨by omega, minus_lt h2, fun i => ?_⟩, outK_jump hkj (fun i h4 h5 => ?_) q2.2, ?_⟩
  · rw [hd i]
    by_cases r : i = j
    · subst r
      have : ¬ i + 1 ≤ i := by omega
      simp [this]
    · by_cases r2 : j + 1 ≤ i
      · have := h3 i
        rw [this]
        have r3 : k ≤ i := by omega
        simp [r, r2, r3]
      · rw [c3 i (by omega)]
        simp [r2]
  · have := h3 i
    rw [c3 i h5, decide_eq_true h4, Bool.true_and] at this
    exact this.symm
  · have : s &&& (s - 1) ≤ s - 1 := Nat.and_le_right
    omega
theorem Cs.fin {x k : Nat} (h : Cs x k 0) : outK (bt x) k = outK (bt x) 64 := by
  obtain ⟨h1, _, h3⟩ := h
  obtain ⟨d, hd⟩ : ∃ d, 64 = k + d := ⟨64 - k, by omega⟩
  rw [hd]
  refine (outK_skip d (fun i h4 _ => ?_)).symm
  have := h3 i
  rw [bt_zero, decide_eq_true h4, Bool.true_and] at this
  exact this.symm
set_option maxHeartbeats 4000000 in
theorem iSetCells (w : World) (x : Nat) (hx : x < 18446744073709551616) (hT : Tab w) :
    Calls Tryd.prog 34 #[.int .u64 (x : Int)] w (Cels.NbPost (outK (bt x) 64) w) := by
  obtain ⟨i0, hi, hz0, hz1, hz2⟩ := info_parts Cels.cellInfo
  have HC := Lib.hid (fun W => iCount x hx W)
  have HF := Lib.hid (fun W (hb : Below w.heap.size w W) s (h0 : s ≠ 0) (hs : s < 18446744073709551616) => iFirst s h0 hs W (hT.on hb (Nat.le_refl _)))
  have hl := pl_le64 (bt x)
  generalize (pl (bt x)).length = n at HC hl
  have HX := Lib.hid (Cs.start hx)
  clear hx hT
  go_enter Tryd.func34, Tryd.ntmps34
  go_wp2_with fail
  refine (HC.out _).mono ?_
  rintro e wx ⟨rfl, rfl⟩
  go_wp2_with (first
    | (at_make; refine wpList_make_own _ rfl _ _ 28 rfl wx.heap.size 33 i0 (.agg #[.int .i64 0, .int .i64 0]) 2 Tryd.underlying28 hi hz0 hz1 .i64 .i64 (n : Int) n rfl rfl rfl (by rw [hz2]; omega) (by unfold maxLen; omega) (Nat.le_refl _) ?_; intro w1 hown1 hg1))
  have hb1 : Below wx.heap.size wx w1 := (Below.refl _ _).grown hg1 (Nat.le_refl _) (by simp)
  have HO := Lib.hid (show w1.ownsRow wx.heap.size 33 2 (.slice (some ⟨wx.heap.size, 0, none⟩) 0 n) 0 (rowC []) from hown1)
  clear HC hown1 hg1
  go_loopw [0, 3] (fun a v wr => ∃ (k s g c : Nat), a = .int .u64 (s : Int) ∧ v = .slice (some ⟨g, 0, none⟩) (outK (bt x) k).length c ∧ Hid (Cs x k s) ∧ wr.ownsRow wx.heap.size 33 2 (.slice (some ⟨g, 0, none⟩) (outK (bt x) k).length c) (outK (bt x) k).length (rowC (outK (bt x) k)) ∧ Below wx.heap.size wx wr) (fun a _ _ => (intOf a).toNat)
  case atStart => exact ⟨0, x, wx.heap.size, n, rfl, rfl, HX, HO.out, hb1⟩
  case round =>
    clear HO hb1 HX
    obtain ⟨k, s, g, c, rfl, rfl, HI, hO, hb⟩ := hrel
    by_cases h0 : s = 0
    · subst h0
      have HE := Lib.hid HI.out.fin
      clear HI
      go_wp2
      go_ret
      rw [HE.out] at hO ⊢
      exact ⟨_, _, rfl, hO, hb⟩
    · obtain ⟨n1, n2, n3⟩ := HI.out.next h0
      have HFs := Lib.hid (fun W hb => HF.out W hb s h0 HI.out.2.1)
      have h64 : (outK (bt x) k).length ≤ 64 := Nat.le_trans (outK_length _ _) HI.out.1
      have hand := u64_and_nat s (s - 1) HI.out.2.1 (by have := HI.out.2.1; omega)
      have hsub : IntKind.u64.wrap ((s : Int) - 1) = ((s - 1 : Nat) : Int) := by
        have := HI.out.2.1
        rw [IntKind.wrap_u64]; omega
      have hs0 : ((s : Int) != (0 : Int)) = true := by simp; omega
      have HN := Lib.hid (And.intro n1 (And.intro n2 n3))
      clear HI n1 n2 n3
      generalize s &&& (s - 1) = s2 at hand HN
      obtain ⟨q, hq⟩ : ∃ q : Int, q = ((s - 1 : Nat) : Int) := ⟨_, rfl⟩
      rw [← hq] at hand hsub
      clear hq
      generalize Go.Lib.ctz 64 s = j at HFs HN
      unfold CelOf at HFs
      obtain ⟨ux, hux⟩ : ∃ q, q = (plc j).1 := ⟨_, rfl⟩
      obtain ⟨uy, huy⟩ : ∃ q, q = (plc j).2 := ⟨_, rfl⟩
      rw [← hux, ← huy] at HFs
      have HU := Lib.hid (show plc j = (ux, uy) by rw [hux, huy])
      have HOw := Lib.hid hO
      clear hux huy h0 hO
      generalize hU : outK (bt x) k = U at HOw HN h64
      clear hU
      go_wp2_with fail
      refine (HFs.out _ hb).mono ?_
      rintro e w2 ⟨rfl, hb2⟩
      have HO2 := Lib.hid (Reg.own_below HOw.out hb2 (Nat.le_refl _))
      have B2 := hb.trans (hb2.mono hb.size)
      have hs2 := B2.size
      clear HOw hb hb2 HFs
      go_wp2_with (first
        | (at_builtin; refine wpList_append_own _ rfl _ _ 28 rfl wx.heap.size 33 i0 (.agg #[.int .i64 0, .int .i64 0]) 2 16 Tryd.underlying28 hi hz0 hz1 hz2 rfl (by decide) _ U.length (rowC U) rfl (HO2.out.alloc _) ⟨w2.heap.size, 0, none⟩ 1 1 [.int .i64 ux, .int .i64 uy] rfl rfl (World.news_of_block (cs := #[.int .i64 ux, .int .i64 uy]) (t := 33) (fr := (0, 0)) (heap_alloc_new w2 _)) (by simp [Value.oneCell']) (by unfold maxLen; omega) (by omega) (by simp; omega) ?_; intro v2 w5 hown5 hgrow _))
      have hb5 : Below wx.heap.size wx w5 := (B2.alloc (by omega) _).grown hgrow (by simp; omega) (fun g hg => (HO2.out.lt g hg).1)
      obtain ⟨g8, c8, rfl⟩ : ∃ g8 c8, v2 = .slice (some ⟨g8, 0, none⟩) (U.length + 1) c8 := by
        rcases hown5.2 with ⟨_, h⟩ | ⟨g8, c8, _, h, _⟩
        · omega
        · exact ⟨g8, c8, h⟩
      have hln : (U ++ [(ux, uy)]).length = U.length + 1 := by rw [List.length_append]; rfl
      have R := Lib.hid (show w5.ownsRow wx.heap.size 33 2 (.slice (some ⟨g8, 0, none⟩) (U ++ [(ux, uy)]).length c8) (U ++ [(ux, uy)]).length (rowC (U ++ [(ux, uy)])) by
        rw [rowC_snoc, hln]; exact hown5)
      have HE2 := Lib.hid (show outK (bt x) (j + 1) = U ++ [(ux, uy)] by rw [HN.out.2.1, HU.out])
      clear hown5 hgrow
      go_wp2
      go_roundw
      case rel => exact ⟨j + 1, s2, g8, c8, rfl, by rw [HE2.out, hln], Lib.hid HN.out.1, by rw [HE2.out]; exact R.out, hb5⟩
      case measure => have := HN.out.2.2; (simp [intOf] <;> omega)
set_option maxHeartbeats 2000000 in
theorem iWhiteAround (w : World) (A : Option Addr) (n cap B : Nat) (xs : List Int) (hx : xs.length = n) (hn : (n : Int) ≤ 9223372036854775807) (h : RowB w B A xs) (hB : B ≤ w.heap.size)
    (A' : Option Addr) (m cap' B' : Nat) (L : List (Int × Int)) (hL : L.length = m) (hm : (m : Int) ≤ 1048576) (h' : RowK w B' A' L) (hB' : B' ≤ w.heap.size) (hT : Tab w) :
    Calls Tryd.prog 15 #[.agg #[.slice A n cap], .slice A' m cap'] w (Cels.NbPost (whtR xs L) w) := by
  have HA := Lib.hid (fun W (hb : RB w (.slice A n cap) W) => iAround W A n cap B xs hx hn (h.below hb.1 hB) (by have := hb.2.1; omega) A' m cap' B' L hL hm (h'.below hb.1 hB') (by have := hb.2.1; omega))
  have HC := Lib.hid (fun W (hb : Below w.heap.size w W) x (hx : x < 18446744073709551616) => iSetCells W x hx (hT.on hb (Nat.le_refl _)))
  have T0 := Lib.hid (fun (T : TypeId) => rb_start (T := T) (.slice A n cap) w)
  clear hx hn h hB hL hm h' hB' hT
  go_enter Tryd.func15, Tryd.ntmps15
  go_wp2_with fail
  have T1 := T0.out 26
  clear T0
  refine (HA.out _ T1).mono ?_
  rintro e w1 ⟨X, Y, rfl, hX, hY, _, hd, hb1⟩
  have T2 := T1.on hb1
  have HY := Lib.hid (show Calls Tryd.prog 34 #[.int .u64 (Y : Int)] w1 (Cels.NbPost (whtR xs L) w1) from hd ▸ HC.out w1 T2.1 Y hY)
  clear T1 hX hY hd hb1 HA HC
  go_wp2_with fail
  refine HY.out.mono ?_
  rintro e w3 ⟨A3, cap3, rfl, hown3, hb3⟩
  have hb := T2.1.trans (hb3.mono T2.1.size)
  have HO := Lib.hid (Reg.own_base hown3 T2.1.size)
  clear hown3 hb3 HY
  go_wp2
  go_ret
  exact ⟨A3, cap3, rfl, HO.out, hb⟩
end Go.Proofs.YtgkgdgchkhdgjaaDoor.Def

/- uncoveredBlacks and FreeBlacks, the program's. -/
namespace Go.Proofs.YtgkgdgchkhdgjaaDoor.Def
set_option linter.unusedVariables false
set_option linter.unusedSimpArgs false
set_option maxRecDepth 100000
open Go.RowKit Go.Proofs.YtgkgdgchkhdgjaaDoor.Base Go.Proofs.YtgkgdgchkhdgjaaDoor.Pure Go.Proofs.YtgkgdgchkhdgjaaDoor.Cell Go.Proofs.YtgkgdgchkhdgjaaDoor.Cels Go.Proofs.YtgkgdgchkhdgjaaDoor.Dom Go.Proofs.YtgkgdgchkhdgjaaDoor.Dms Go.Proofs.YtgkgdgchkhdgjaaDoor.Sets Go.Proofs.YtgkgdgchkhdgjaaDoor.Kun Go.Proofs.YtgkgdgchkhdgjaaDoor.KuL Go.Proofs.YtgkgdgchkhdgjaaDoor.Til Go.Proofs.YtgkgdgchkhdgjaaDoor.Mat Go.Joins
open Go.Proofs.YtgkgdgchkhdgjaaDoor.Cnt (adj gR)
open Go.Proofs.YtgkgdgchkhdgjaaDoor.Nb (nbTo)
open Go.Proofs.YtgkgdgchkhdgjaaDoor.Reg hiding Yes add_none RC rc_start

/-- a black place is covered just if it is joined. -/
theorem cov_is {xs : List Int} {t : Nat} {M : Nat → Int} (hM : Mir col (jT xs t) M) {u : Nat} (hu : col u = true) : decide (0 ≤ M u) = isT (jT xs t) u := by
  rw [Bool.eq_iff_iff, decide_eq_true_eq, isT_iff]
  constructor
  · intro h
    have e := (hM.bl u hu (M u).toNat).1 (Int.toNat_of_nonneg h).symm
    exact ⟨(M u).toNat, ((jT_mc xs t).mt.ok _ (by omega)).1, e⟩
  · rintro ⟨i, _, e⟩
    have := (hM.bl u hu i).2 e
    omega
theorem frs0_zero (xs : List Int) (J : Nat → Int) : frs0 xs J 0 = [] := rfl
theorem frs0_length (xs : List Int) (J : Nat → Int) (t : Nat) : (frs0 xs J t).length ≤ t := by
  unfold frs0
  exact Nat.le_trans (List.length_filter_le _ _) (by rw [List.length_take]; omega)
/-- the free black cells. -/
def freeL (xs : List Int) : List Nat := frs0 xs (jT xs (idl xs).length) (idl xs).length
set_option maxHeartbeats 4000000 in
theorem iUncovered (w : World) (A : Option Addr) (n cap B : Nat) (xs : List Int) (hx : xs.length = n) (hn : (n : Int) ≤ 9223372036854775807) (h : RowB w B A xs) (hB : B ≤ w.heap.size)
    (m : Nat) (M : Nat → Int) (hM : OwnC w m M) (hMi : Mir col (jT xs (idl xs).length) M) :
    Calls Tryd.prog 31 #[.map (some m), .agg #[.slice A n cap]] w (NbPost ((freeL xs).map plc) w) := by
  obtain ⟨i0, hi, hz0, hz1, hz2⟩ := info_parts cellInfo
  have HC := Lib.hid (fun W (hb : Below w.heap.size w W) => iCellsOf W A n cap B xs hx hn (h.below hb hB) (by have := hb.size; omega))
  have HS := Lib.hid (fun (o : Obj) => below_alloc1 w o)
  have HLC := cellsR_length xs
  rw [idl_cells, List.length_map] at HLC
  rw [idl_cells] at HC
  have HMi := Lib.hid hMi
  have HL := Lib.hid (fun W (hb : Below w.heap.size w W) k (hk : k < 64) => (hM.on hb).look hk)
  unfold freeL
  obtain ⟨J, hJ⟩ : ∃ J, J = jT xs (idl xs).length := ⟨_, rfl⟩
  have HCv := Lib.hid (fun u (hu : col u = true) => show decide (0 ≤ M u) = isT J u from hJ ▸ cov_is hMi hu)
  rw [← hJ]
  clear hx hn h hB hJ HMi hMi hM
  obtain ⟨N, hN⟩ : ∃ N, N = (idl xs).length := ⟨_, rfl⟩
  rw [← hN] at HLC ⊢
  have HN := Lib.hid hN
  clear hN
  go_enter Tryd.func31, Tryd.ntmps31
  go_wp2_with fail
  refine (HC.out _ (HS.out _)).mono ?_
  rintro e w1 ⟨A1, cap1, rfl, hown1, hb1⟩
  rw [List.length_map, ← HN.out] at hown1 ⊢
  have hbw1 := (HS.out _).trans (hb1.mono (HS.out _).size)
  obtain ⟨b, off, hA1, hR1⟩ := rowC_own hown1
  have R1 : RdC w1 b off ((idl xs).map plc) := ⟨fun h0 => (hA1 h0).2, hR1⟩
  have HA1 := Lib.hid (fun h0 => (hA1 h0).1)
  rw [List.length_map, ← HN.out] at HA1
  have HNil := Lib.hid (World.ownsRow_nil w1 w1.heap.size 33 2)
  clear HC HS hown1 hb1 hA1 hR1
  go_wp2_with fail
  go_loopw [5, 13] (fun v i wr => ∃ j : Nat, j ≤ N ∧ i = .int .i64 j ∧ wr.ownsRow w1.heap.size 33 2 v (frs0 xs J j).length (rowC ((frs0 xs J j).map plc)) ∧ Below w1.heap.size w1 wr) (fun _ i _ => N - (intOf i).toNat)
  case atStart => exact ⟨0, Nat.zero_le _, rfl, by simpa [frs0_zero, rowC] using HNil.out, Below.refl _ _⟩
  case round =>
    clear HNil
    obtain ⟨j, hj, rfl, hown, hb⟩ := hrel
    have hbs := hb.size
    by_cases hlt : j < N
    · have hti : j < (idl xs).length := by rw [← HN.out]; exact hlt
      obtain rfl := HA1.out (by omega)
      have hbb : b < w1.heap.size := R1.1 (by rw [List.length_map]; omega)
      obtain ⟨c0, c1⟩ := R1.2 j (plc (idl xs)[j]) (by rw [List.getElem?_map, List.getElem?_eq_getElem hti]; rfl)
      have c0 := (hb.cell (p := ⟨b, off + j * 2, none⟩) hbb).trans c0
      have c1 := (hb.cell (p := ⟨b, off + j * 2 + 1, none⟩) hbb).trans c1
      obtain ⟨v64, vg, _⟩ := idl_mem (List.getElem_mem hti)
      have HBl := Lib.hid (fun W => CellF.iIsBlack (plc (idl xs)[j]).1 (plc (idl xs)[j]).2 W)
      rw [show blackB (plc (idl xs)[j]).1 (plc (idl xs)[j]).2 = col (idl xs)[j] from col_black v64] at HBl
      have HNo := Lib.hid (fun hh => frs0_no (J := J) hti hh)
      have HYe := Lib.hid (fun hh => frs0_yes (J := J) hti hh)
      have hbw := hbw1.trans (hb.mono hbw1.size)
      have HLk := Lib.hid (fun W hb => HL.out W hb _ v64)
      have HCk := Lib.hid (HCv.out (idl xs)[j])
      have hLn := frs0_length xs J j
      generalize (idl xs)[j] = v at c0 c1 HBl HNo HYe HLk HCk
      unfold cV at HLk
      have HPl := Lib.hid (rfl : plc v = plc v)
      have hvx : ((v % 8 : Nat) : Int) = (plc v).1 := rfl
      have hvy : ((v / 8 : Nat) : Int) = (plc v).2 := rfl
      obtain ⟨ux, hux⟩ : ∃ q, q = (plc v).1 := ⟨_, rfl⟩
      obtain ⟨uy, huy⟩ : ∃ q, q = (plc v).2 := ⟨_, rfl⟩
      rw [hvx, hvy, ← hux, ← huy] at HLk
      rw [← hux] at c0 HBl
      rw [← huy] at c1 HBl
      have HUv := Lib.hid (show plc v = (ux, uy) by rw [hux, huy])
      clear hux huy hvx hvy HPl vg
      obtain ⟨ox, hox⟩ : ∃ q : Int, q = (((M v).toNat % 8 : Nat) : Int) := ⟨_, rfl⟩
      obtain ⟨oy, hoy⟩ : ∃ q : Int, q = (((M v).toNat / 8 : Nat) : Int) := ⟨_, rfl⟩
      rw [← hox, ← hoy] at HLk
      clear hox hoy
      generalize decide (0 ≤ M v) = kq at HLk HCk
      have HOwn := Lib.hid hown
      clear hown
      generalize hU : frs0 xs J j = U at HOwn HYe HNo hLn
      clear hU
      have Z2 := At2.new wr ux uy
      have B2 := hb.alloc hb.size (.cells #[.int .i64 ux, .int .i64 uy] 33)
      have HO2 := Lib.hid (Reg.own_below HOwn.out (below_alloc1 wr (.cells #[.int .i64 ux, .int .i64 uy] 33)) (Nat.le_refl _))
      have hs2 : w1.heap.size ≤ (wr.alloc (.cells #[.int .i64 ux, .int .i64 uy] 33)).heap.size := B2.size
      clear hbw HOwn
      go_upto_region 5 with fail
      generalize wr.alloc (.cells #[.int .i64 ux, .int .i64 uy] 33) = W2 at Z2 B2 HO2 hs2 ⊢
      generalize wr.heap.size = zb at Z2 ⊢
      clear c0 c1 hb hbs hbb R1
      have d0 := Z2.c0
      have d1 := Z2.c1
      have hlk := HLk.out W2 (hbw1.trans (B2.mono hbw1.size))
      have Z3 := Z2.on (below_alloc1 W2 (.cells #[.int .i64 ox, .int .i64 oy] 33))
      have B3 := B2.alloc hs2 (.cells #[.int .i64 ox, .int .i64 oy] 33)
      have HO3 := Lib.hid (Reg.own_below HO2.out (below_alloc1 W2 (.cells #[.int .i64 ox, .int .i64 oy] 33)) (Nat.le_refl _))
      clear HO2
      go_upto_region 6 with fail
      generalize W2.alloc (.cells #[.int .i64 ox, .int .i64 oy] 33) = W3 at Z3 B3 HO3 ⊢
      clear d0 d1 Z2 B2 hlk HLk hs2
      have d0 := Z3.c0
      have d1 := Z3.c1
      go_wp2_with fail
      refine (HBl.out _).mono ?_
      rintro e w4 ⟨rfl, hb4⟩
      have Z4 := Z3.on hb4
      have B4 := B3.trans (hb4.mono B3.size)
      have HO4 := Lib.hid (Reg.own_below HO3.out hb4 (Nat.le_refl _))
      have hs4 := B4.size
      clear d0 d1 Z3 B3 HO3 hb4 HBl
      cases hc : col v with
      | false =>
        have HN := Lib.hid (HNo.out (by rw [hc]; rfl))
        clear hc HCk HNo HYe
        go_wp2
        go_roundw
        case rel => exact ⟨j + 1, by omega, by go_num, by rw [HN.out]; exact HO4.out, B4⟩
        case measure => (simp [intOf] <;> omega)
      | true =>
        have hkq := HCk.out hc
        cases kq with
        | true =>
          have HN := Lib.hid (HNo.out (by rw [hc, ← hkq]; rfl))
          clear hc HCk HNo HYe hkq
          go_wp2
          go_roundw
          case rel => exact ⟨j + 1, by omega, by go_num, by rw [HN.out]; exact HO4.out, B4⟩
          case measure => (simp [intOf] <;> omega)
        | false =>
          have HN := Lib.hid (HYe.out (by rw [hc, ← hkq]; rfl))
          clear hc HCk HNo HYe hkq
          have d0 := Z4.c0
          have d1 := Z4.c1
          have hU64 : U.length ≤ 64 := by omega
          have hUm : (U.map plc).length = U.length := List.length_map ..
          go_wp2_with (first
            | (at_builtin; refine wpList_append_own _ rfl _ _ 28 rfl w1.heap.size 33 i0 (.agg #[.int .i64 0, .int .i64 0]) 2 16 Tryd.underlying28 hi hz0 hz1 hz2 rfl (by decide) _ U.length (rowC (U.map plc)) rfl (HO4.out.alloc _) ⟨w4.heap.size, 0, none⟩ 1 1 [.int .i64 ux, .int .i64 uy] rfl rfl (World.news_of_block (cs := #[.int .i64 ux, .int .i64 uy]) (t := 33) (fr := (0, 0)) (heap_alloc_new w4 _)) (by simp [Value.oneCell']) (by unfold maxLen; omega) (by omega) (by simp; omega) ?_; intro v2 w5 hown5 hgrow _))
          have hb5 : Below w1.heap.size w1 w5 := (B4.alloc (by omega) _).grown hgrow (by simp; omega) (fun g hg => (HO4.out.lt g hg).1)
          have R := Lib.hid (show w5.ownsRow w1.heap.size 33 2 v2 (U ++ [v]).length (rowC ((U ++ [v]).map plc)) by
            rw [List.map_append, List.map_singleton, HUv.out, rowC_snoc, List.length_append]; exact hown5)
          clear hown5 hgrow
          go_wp2
          go_roundw
          case rel => exact ⟨j + 1, by omega, by go_num, by rw [HN.out]; exact R.out, hb5⟩
          case measure => (simp [intOf] <;> omega)
    · obtain rfl : j = N := by omega
      obtain ⟨A2, cap2, rfl⟩ := own_shape hown
      have hEnd := hbw1.trans (hb.mono hbw1.size)
      have HOwn := Lib.hid hown
      clear hown hb
      go_wp2
      go_ret
      have hz := hbw1.size
      refine ⟨A2, cap2, by rw [List.length_map]; first | done | rfl, ?_, hEnd⟩
      rw [List.length_map]
      exact Reg.own_base HOwn.out (by omega)

theorem free_len (xs : List Int) : (((freeL xs).length : Nat) : Int) = freeR xs := by
  unfold freeR
  by_cases ho : okR xs
  · rw [if_pos (okRB_iff.2 ho)]
    unfold freeL
    rw [jT_end ho]
    have e : frs0 xs (joined xs) (idl xs).length = pl (frB xs (joined xs)) := by
      unfold frs0
      rw [List.take_length]
      unfold idl
      rw [if_pos (okRB_iff.2 ho)]
      unfold Cnt.idxs pl
      rw [List.filter_filter]
      refine List.filter_congr (fun u _ => ?_)
      unfold frB Blk
      cases gR xs u <;> cases col u <;> simp
    rw [e]; rfl
  · rw [if_neg (fun q => ho (okRB_iff.1 q))]
    unfold freeL frs0 idl
    rw [if_neg (fun q => ho (okRB_iff.1 q))]
    rfl
set_option maxHeartbeats 2000000 in
theorem iFreeBlacks (w : World) (A : Option Addr) (n cap B : Nat) (xs : List Int) (hx : xs.length = n) (hn : (n : Int) ≤ 9223372036854775807) (h : RowB w B A xs) (hB : B ≤ w.heap.size) :
    Calls Tryd.prog 9 #[.agg #[.slice A n cap]] w (Num (freeR xs) w) := by
  have T0 := Lib.hid (fun (T : TypeId) => rb_start (T := T) (.slice A n cap) w)
  have HM := Lib.hid (fun W (hb : RB w (.slice A n cap) W) => iMatched W A n cap B xs hx hn (h.below hb.1 hB) (by have := hb.2.1; omega))
  have HU := Lib.hid (fun W (hb : RB w (.slice A n cap) W) m M (hM : OwnC W m M) (hMi : Mir col (jT xs (idl xs).length) M) => iUncovered W A n cap B xs hx hn (h.below hb.1 hB) (by have := hb.2.1; omega) m M hM hMi)
  have HF := Lib.hid (free_len xs)
  generalize hF : (freeL xs).map plc = F at HU
  have HFl := Lib.hid (show ((F.length : Nat) : Int) = freeR xs by rw [← hF, List.length_map]; exact HF.out)
  clear hx hn h hB hF HF
  go_enter Tryd.func9, Tryd.ntmps9
  go_wp2_with fail
  have T1 := T0.out 26
  generalize w.alloc (.cells #[.slice A n cap] 26) = W1 at T1 ⊢
  have c1 := T1.2.2
  refine wp_region_noPanic ?_
  refine wp_region_held_drew (S := (fun w' => w'.cell? ⟨w.heap.size, 0, none⟩ = some (.slice A n cap))) (by kernel_rfl) (T1.drew.2.2) (fun hHeld => ?_)
  refine wpAnyH_take (i := 0) (v := ?_) rfl (by kernel_rfl) (by kernel_rfl) (by kernel_rfl) (fun _ _ _ h => h) (Or.inl ⟨by rfl, ?_⟩) (by assumption) ?_
  rotate_left
  · (intro w' hS; (try dsimp only at hS); go_simp; try with_reducible rfl)
  try simp only [Act.put, List.getElem_toArray, List.getElem_cons_succ, List.getElem_cons_zero, List.setIfInBounds_toArray, List.set_cons_zero, List.set_cons_succ]
  refine wpAnyH_take (i := 2) (v := ?_) rfl (by kernel_rfl) (by kernel_rfl) (by kernel_rfl) (fun _ _ _ h => h) (Or.inl ⟨by rfl, ?_⟩) (by assumption) ?_
  rotate_left
  · (intro w' hS; (try dsimp only at hS); go_simp; try with_reducible rfl)
  try simp only [Act.put, List.getElem_toArray, List.getElem_cons_succ, List.getElem_cons_zero, List.setIfInBounds_toArray, List.set_cons_zero, List.set_cons_succ]
  refine wpAnyH_ready (rs := [1]) (by kernel_rfl) (by simp) ?_
  refine AllReadyH.cons rfl (fun K hK => ?_) AllReadyH.nil
  go_simp
  refine (HM.out _ T1.drew).mono ?_
  rintro e wx ⟨m, M, rfl, _, hM, hMi, hbx⟩
  have T2 := T1.drew.on hbx
  clear T1
  go_wp2_with fail
  refine hK.out _ _ (T2.2.2) (fun hHeld => ?_)
  clear hK K
  try simp only [Act.put, List.getElem_toArray, List.getElem_cons_succ, List.getElem_cons_zero, List.setIfInBounds_toArray, List.set_cons_zero, List.set_cons_succ]
  refine wpAnyH_ready (rs := [3]) (by kernel_rfl) (by simp) ?_
  refine AllReadyH.cons rfl (fun K hK => ?_) AllReadyH.nil
  go_simp
  refine (HU.out _ T2 m M hM hMi).mono ?_
  rintro e wx ⟨A3, cap3, rfl, hown3, hbx⟩
  have T3 := T2.on hbx
  clear T2
  go_wp2_with fail
  refine hK.out _ _ (T3.2.2) (fun hHeld => ?_)
  clear hK K
  try simp only [Act.put, List.getElem_toArray, List.getElem_cons_succ, List.getElem_cons_zero, List.setIfInBounds_toArray, List.set_cons_zero, List.set_cons_succ]
  refine wpAnyH_take (i := 4) (v := ?_) rfl (by kernel_rfl) (by kernel_rfl) (by kernel_rfl) (fun _ _ _ h => h) (Or.inl ⟨by rfl, ?_⟩) (by assumption) ?_
  rotate_left
  · (intro w' hS; (try dsimp only at hS); go_simp; try with_reducible rfl)
  try simp only [Act.put, List.getElem_toArray, List.getElem_cons_succ, List.getElem_cons_zero, List.setIfInBounds_toArray, List.set_cons_zero, List.set_cons_succ]
  refine wpAnyH_take (i := 5) (v := ?_) rfl (by kernel_rfl) (by kernel_rfl) (by kernel_rfl) (fun _ _ _ h => h) (Or.inl ⟨by rfl, ?_⟩) (by assumption) ?_
  rotate_left
  · (intro w' hS; (try dsimp only at hS); go_simp; try with_reducible rfl)
  try simp only [Act.put, List.getElem_toArray, List.getElem_cons_succ, List.getElem_cons_zero, List.setIfInBounds_toArray, List.set_cons_zero, List.set_cons_succ]
  refine wpAnyH_done (by kernel_rfl) ?_ _
  refine NoPanic.normal ?_
  clear hHeld
  go_wp2
  go_ret
  exact mkNum HFl.out T3.1
end Go.Proofs.YtgkgdgchkhdgjaaDoor.Def

/- WitnessOf, the program's: what is left in the map while ways are followed, and the walk. -/
namespace Go.Proofs.YtgkgdgchkhdgjaaDoor.Def
set_option linter.unusedVariables false
set_option linter.unusedSimpArgs false
set_option maxRecDepth 100000
open Go.RowKit Go.Proofs.YtgkgdgchkhdgjaaDoor.Base Go.Proofs.YtgkgdgchkhdgjaaDoor.Pure Go.Proofs.YtgkgdgchkhdgjaaDoor.Cell Go.Proofs.YtgkgdgchkhdgjaaDoor.Cels Go.Proofs.YtgkgdgchkhdgjaaDoor.Dom Go.Proofs.YtgkgdgchkhdgjaaDoor.Dms Go.Proofs.YtgkgdgchkhdgjaaDoor.Sets Go.Proofs.YtgkgdgchkhdgjaaDoor.Kun Go.Proofs.YtgkgdgchkhdgjaaDoor.KuL Go.Proofs.YtgkgdgchkhdgjaaDoor.Til Go.Proofs.YtgkgdgchkhdgjaaDoor.Mat Go.Joins
open Go.Proofs.YtgkgdgchkhdgjaaDoor.Cnt (adj gR)
open Go.Proofs.YtgkgdgchkhdgjaaDoor.Reg hiding Yes add_none RC rc_start

/-! A key taken out of the map. -/
theorem KD.del {D : DataW Unit} {M : Nat → Int} (h : KD D M) {k : Nat} (hk : k < 64) : KD (D.del (kC k)) (put M k (-1)) := by
  refine ⟨fun kl hkl => ?_, fun i hi h0 => ?_⟩
  · by_cases e : kl = kC k
    · rw [e, Maps.has_del_same] at hkl; cases hkl
    · rw [Maps.has_del_other e] at hkl
      obtain ⟨i, hi, h0, rfl⟩ := h.1 _ hkl
      exact ⟨i, hi, by rw [put_ne (fun q => e (by rw [q]))]; exact h0, rfl⟩
  · by_cases e : i = k
    · subst e; rw [put_at] at h0; omega
    · have ne : kC i ≠ kC k := fun q => e (kC_inj hi hk q)
      rw [put_ne e] at h0 ⊢
      obtain ⟨a, b⟩ := h.2 i hi h0
      exact ⟨by rw [Maps.has_del_other ne]; exact a, fun zd => by rw [Maps.atKey_del_other ne]; exact b zd⟩
section
variable {ops : Array Oper} {rest : List Oper} {o : Oper} {a : Act} {Q : Exit → Act → World → Prop}
theorem del_c (w : World) (hg : o.guard = none) (m x : Operand) (hop : o.op = Op.call { callee := Callee.builtin Builtin.delete, args := #[m, x], argTypes := #[54, 33] }) (b : Nat) (M : Nat → Int) (hm : a.eval m = .map (some b)) (h : OwnC w b M) (k : Nat) (hk : k < 64) (hx : a.eval x = cV k)
    (hK : ∀ w', OwnC w' b (put M k (-1)) → w.mapTurned w' b → wpList Tryd.prog ops Q rest (a.put o.dst (.tuple #[])) w') :
    wpList Tryd.prog ops Q (o :: rest) a w := by
  obtain ⟨D, ho, hD⟩ := h
  exact wpList_delete_own w hg m x 54 33 hop 33 law ut RC b 64 D hm ho (cV k) (kC k) hx (keyC hk) (fun w' h1 h2 => hK w' ⟨_, h1, KD.del hD hk⟩ h2)
end
/-- cells of places as an answer, in memory of their own. -/
def CelPost2 (js : List Nat) (w : World) (e : Ending) (w' : World) : Prop := ∃ A cap b off, e = .returned (.slice A js.length cap) ∧ (0 < js.length → A = some ⟨b, off, none⟩ ∧ w.heap.size ≤ b) ∧ RdC w' b off (js.map plc) ∧ Below w.heap.size w w'
theorem nb_cel2 {js : List Nat} {w : World} {e : Ending} {w' : World} (h : Nb.NbPost (js.map plc) w e w') : CelPost2 js w e w' := by
  obtain ⟨A, cap, rfl, hown, hb⟩ := h
  obtain ⟨b, off, hA, hR⟩ := Nb.rowC_own hown
  rw [List.length_map] at hA hown ⊢
  exact ⟨A, cap, b, off, rfl, fun h0 => ⟨(hA h0).1, by
    have e := (hA h0).1
    subst e
    exact (hown.lt b rfl).1⟩, ⟨fun h0 => (hA (by rw [List.length_map] at h0; exact h0)).2, hR⟩, hb⟩
/-- what is left in the map: the white places whose black ones have not been reached. -/
def Un (J : Nat → Int) (L : List Nat) (M : Nat → Int) : Prop := ∀ i, i < 64 → col i = false → (0 ≤ M i ↔ 0 ≤ J i ∧ (J i).toNat ∉ L) ∧ (0 ≤ M i → M i = J i)
theorem Un.start {J M : Nat → Int} (hM : Mir col J M) {L : List Nat} (hL : ∀ x ∈ L, isT J x = false) : Un J L M := fun i hi hc => by
  rw [hM.wh i hc]
  exact ⟨⟨fun h => ⟨h, fun hm => by
    have := hL _ hm
    rw [isT_iff.2 ⟨i, hi, (Int.toNat_of_nonneg h).symm⟩] at this; cases this⟩, fun h => h.1⟩, fun _ => rfl⟩
theorem Un.next {xs : List Int} {J M : Nat → Int} {L : List Nat} (hm : Mc (gR xs) col (Blk xs) J) (h : Un J L M) {i : Nat} (hi : i < 64) (hc : col i = false) (h0 : 0 ≤ M i) : Un J (L ++ [(J i).toNat]) (put M i (-1)) := fun j hj hcj => by
  obtain ⟨j0, _⟩ := (h i hi hc).1.1 h0
  by_cases e : j = i
  · subst e
    rw [put_at]
    exact ⟨⟨fun h => by omega, fun h => absurd (List.mem_append_right _ (List.mem_singleton.2 rfl)) h.2⟩, fun h => by omega⟩
  · rw [put_ne e]
    obtain ⟨a, b⟩ := h j hj hcj
    refine ⟨?_, b⟩
    rw [a, List.mem_append, List.mem_singleton]
    constructor
    · rintro ⟨p, q⟩
      exact ⟨p, fun r => r.elim q (fun e2 => e (hm.inj j i p (by omega)))⟩
    · rintro ⟨p, q⟩
      exact ⟨p, fun r => q (.inl r)⟩
theorem frs0_isT {xs : List Int} {J : Nat → Int} {t x : Nat} (h : x ∈ frs0 xs J t) : isT J x = false := by
  unfold frs0 at h
  have := (List.mem_filter.1 h).2
  cases hq : isT J x with
  | false => rfl
  | true => rw [hq] at this; simp at this
/-- the list and the map, while ways are followed. -/
structure RS (w : World) (m : Nat) (M : Nat → Int) (A : Option Addr) (c : Nat) (L : List Nat) (W : World) : Prop where
  bel : Below w.heap.size w W
  lo : w.heap.size ≤ m
  own : OwnC W m M
  row : W.ownsRow w.heap.size 33 2 (.slice A L.length c) L.length (rowC (L.map plc))
section
variable {w W W' : World} {m c : Nat} {M M' : Nat → Int} {A : Option Addr} {L : List Nat}
theorem RS.on (h : RS w m M A c L W) (hb : Below W.heap.size W W') : RS w m M A c L W' :=
  ⟨h.bel.trans (hb.mono h.bel.size), h.lo, h.own.on hb, Reg.own_below h.row hb (Nat.le_refl _)⟩
theorem RS.far (h : RS w m M A c L W) : (Value.slice A L.length c).ownBlock ≠ some m := by
  intro e
  obtain ⟨es, clock, hm⟩ := h.own.obj
  rcases h.row.2 with ⟨hn, _⟩ | ⟨g, cap', cur, hv, _, hg, _⟩
  · rw [hn] at e; cases e
  · rw [hv] at e
    injection e with e
    have e : g = m := e
    rw [e, hm] at hg; cases hg
theorem RS.drop (h : RS w m M A c L W) (ho : OwnC W' m M') (ht : W.mapTurned W' m) : RS w m M' A c L W' :=
  ⟨h.bel.grown ht.grown h.bel.size (fun g e => by cases e; exact h.lo), h.lo, ho, h.row.kept ht.grown (.inr h.far)⟩
theorem RS.push (h : RS w m M A c L W) {g c' u : Nat} (ho : W'.ownsRow w.heap.size 33 2 (.slice (some ⟨g, 0, none⟩) (L.length + 1) c') (L.length + 1) (rowC (L.map plc) ++ [.int .i64 (plc u).1, .int .i64 (plc u).2])) (hg : W.grownBy W' (Value.slice A L.length c).ownBlock) : RS w m M (some ⟨g, 0, none⟩) c' (L ++ [u]) W' := by
  have hl : (L ++ [u]).length = L.length + 1 := by rw [List.length_append]; rfl
  refine ⟨h.bel.grown hg h.bel.size (fun q e => ?_), h.lo, h.own.kept hg (fun e => h.far e.symm), ?_⟩
  · rcases h.row.2 with ⟨hn, _⟩ | ⟨g0, cap', cur, hv, hlo, _⟩
    · rw [hn] at e; cases e
    · rw [hv] at e
      injection e with e
      have e : g0 = q := e
      omega
  · rw [hl, List.map_append, List.map_singleton, show plc u = ((plc u).1, (plc u).2) from rfl, rowC_snoc]
    exact ho
theorem RS.rd (h : RS w m M A c L W) : ∃ b off, (0 < L.length → A = some ⟨b, off, none⟩) ∧ RdC W b off (L.map plc) := by
  obtain ⟨b, off, hA, hR⟩ := Cels.rowC_own h.row
  rw [List.length_map] at hA
  exact ⟨b, off, fun h0 => (hA h0).1, ⟨fun h0 => (hA (by rw [List.length_map] at h0; exact h0)).2, hR⟩⟩
end
theorem at2_turned {W W' : World} {q m : Nat} {x y : Int} (h : At2 W q x y) (ht : W.mapTurned W' m) : At2 W' q x y := by
  have hne : some q ≠ some m := by
    intro e
    injection e with e
    obtain ⟨es, clock, es', clock', hb, _⟩ := ht
    have h' := h
    unfold At2 at h'
    rw [e, hb] at h'; cases h'
  exact (ht.grown.block q h.lt hne).trans h
/-- what is reached is the witness. -/
theorem wit_end {xs : List Int} {L : List Nat} {k : Nat} (hk : L.length ≤ k) (h : (okR xs ∧ Bf xs (joined xs) L k) ∨ (¬ okR xs ∧ L = [])) : outK (bt (setN L)) 64 = witR xs ∧ (∀ x ∈ L, x < 64) ∧ L.length ≤ 64 := by
  rcases h with ⟨ho, h⟩ | ⟨ho, rfl⟩
  · refine ⟨?_, fun x hx => (h.lt (joined_max xs).1 x hx).1, h.len (joined_max xs).1⟩
    rw [← outK_all ho, ← h.fin hk]
    congr 1
    funext i
    exact bt_set L i
  · refine ⟨?_, fun x hx => (by cases hx), by simp⟩
    rw [witR_not ho]
    show (pl (bt 0)).map plc = []
    rw [pl_none]; rfl
theorem wit_start {xs : List Int} : (okR xs ∧ Bf xs (joined xs) (freeL xs) 0) ∨ (¬ okR xs ∧ freeL xs = []) := by
  by_cases ho : okR xs
  · left
    refine ⟨ho, ?_⟩
    unfold freeL
    rw [jT_end ho]
    exact frs0_bf ho (Nat.le_refl _)
  · right
    refine ⟨ho, ?_⟩
    unfold freeL frs0 idl
    rw [if_neg (fun q => ho (okRB_iff.1 q))]
    rfl
theorem len_64 {xs : List Int} {L : List Nat} {k : Nat} (h : (okR xs ∧ Bf xs (joined xs) L k) ∨ (¬ okR xs ∧ L = [])) : L.length ≤ 64 := by
  rcases h with ⟨ho, h⟩ | ⟨ho, rfl⟩
  · exact h.len (joined_max xs).1
  · simp
set_option maxHeartbeats 4000000 in
theorem iWitnessOf (w : World) (A : Option Addr) (n cap B : Nat) (xs : List Int) (hx : xs.length = n) (hn : (n : Int) ≤ 9223372036854775807) (h : RowB w B A xs) (hB : B ≤ w.heap.size) (hT : Tab w) :
    Calls Tryd.prog 8 #[.agg #[.slice A n cap]] w (Cels.NbPost (witR xs) w) := by
  obtain ⟨i0, hi, hz0, hz1, hz2⟩ := info_parts Cels.cellInfo
  have T0 := Lib.hid (fun (T : TypeId) => rb_start (T := T) (.slice A n cap) w)
  have HM := Lib.hid (fun W (hb : RB w (.slice A n cap) W) => iMatched W A n cap B xs hx hn (h.below hb.1 hB) (by have := hb.2.1; omega))
  have HU := Lib.hid (fun W (hb : RB w (.slice A n cap) W) m M (hM : OwnC W m M) (hMi : Mir col (jT xs (idl xs).length) M) => iUncovered W A n cap B xs hx hn (h.below hb.1 hB) (by have := hb.2.1; omega) m M hM hMi)
  have HNv := Lib.hid (fun v (hv : v < 64) W => show Calls Tryd.prog 32 #[.agg #[.int .i64 (plc v).1, .int .i64 (plc v).2]] W (CelPost2 (nbN v) W) from (nb_is hv ▸ Nb.implNb (plc v).1 (plc v).2 W).mono (fun e w' q => nb_cel2 q))
  have HSt := Lib.hid (fun W b1 off1 A1 c1 js (hj : ∀ j ∈ js, j < 64) (hl : (js.length : Int) ≤ 1048576) (hA : 0 < js.length → A1 = some ⟨b1, off1, none⟩) (R : RdC W b1 off1 (js.map plc)) => iSetOf W A1 js.length c1 b1 off1 (js.map plc) js rfl hj rfl hl hA R)
  have HCs := Lib.hid (fun W (hb : Below w.heap.size w W) x (hx : x < 18446744073709551616) => iSetCells W x hx (hT.on hb (Nat.le_refl _)))
  have HUn := Lib.hid (fun M (hMi : Mir col (jT xs (idl xs).length) M) (ho : okR xs) => show Un (joined xs) (freeL xs) M from by
    rw [jT_end ho] at hMi
    refine Un.start hMi (fun x hx => ?_)
    unfold freeL at hx
    rw [jT_end ho] at hx
    exact frs0_isT hx)
  have HW0 := Lib.hid (wit_start (xs := xs))
  have HMc := Lib.hid (joined_max xs).1
  clear hx hn h hB hT
  go_enter Tryd.func8, Tryd.ntmps8
  go_wp2_with fail
  have T1 := T0.out 26
  clear T0
  refine (HM.out _ T1).mono ?_
  rintro e w1 ⟨m, M0, rfl, hm, hM, hMi, hb1⟩
  have T2 := T1.on hb1
  have c1 := T2.2.2
  clear HM
  go_wp2_with fail
  refine (HU.out _ T2 m M0 hM hMi).mono ?_
  rintro e w2 ⟨A2, cap2, rfl, hown2, hb2⟩
  have HUn0 := Lib.hid (HUn.out M0 hMi)
  have hz1' := T1.1.size
  have hz2' := T2.1.size
  have HS0 := Lib.hid (show RS w m M0 A2 cap2 (freeL xs) w2 from ⟨(T2.on hb2).1, by omega, hM.on hb2, by
    rw [List.length_map] at hown2
    exact Reg.own_base hown2 hz2'⟩)
  rw [List.length_map]
  clear T1 T2 c1 HU HUn hM hMi hb1 hb2 hown2 hm hz1' hz2'
  generalize freeL xs = L0 at HUn0 HS0 HW0 ⊢
  go_wp2_with fail
  go_loopg [4, 5] 65 (fun gg v i wr => ∃ (k c : Nat) (L : List Nat) (M : Nat → Int) (A : Option Addr), k + gg = 65 ∧ i = .int .i64 k ∧ v = .slice A L.length c ∧ Hid ((okR xs ∧ Bf xs (joined xs) L k) ∨ (¬ okR xs ∧ L = [])) ∧ Hid (okR xs → Un (joined xs) L M) ∧ Hid (k ≤ L.length) ∧ RS w m M A c L wr)
  case atStart => exact ⟨0, cap2, L0, M0, A2, by omega, rfl, rfl, HW0, HUn0, Lib.hid (Nat.zero_le _), HS0.out⟩
  case round =>
    clear HS0 HW0 HUn0
    obtain ⟨k, c, L, M, A, hk, rfl, rfl, HB, HV, HKl, hS⟩ := hrel
    have hL64 := len_64 HB.out
    by_cases hlt : k < L.length
    · obtain ⟨ho, hBf⟩ : okR xs ∧ Bf xs (joined xs) L k := by
        rcases HB.out with q | ⟨_, rfl⟩
        · exact q
        · exact absurd hlt (by simp)
      obtain ⟨b2, off2, hA2, hR2⟩ := hS.rd
      obtain rfl := hA2 (by omega)
      obtain ⟨c0, c1⟩ := hR2.2 k (plc L[k]) (by rw [List.getElem?_map, List.getElem?_eq_getElem hlt]; rfl)
      have hu64 := (hBf.lt HMc.out L[k] (List.getElem_mem hlt))
      have HBi0 := Lib.hid (hBf.open (List.getElem?_eq_getElem hlt))
      have HVo := Lib.hid (HV.out ho)
      have HNu := Lib.hid (fun W => HNv.out L[k] hu64.1 W)
      have HU64 := Lib.hid hu64.1
      have HCb := Lib.hid (show col L[k] = true from by have := hu64.2; unfold Blk at this; rw [Bool.and_eq_true] at this; exact this.2)
      have hN4 := nb_len ⟨L[k], hu64.1⟩
      simp only at hN4
      generalize L[k] = u at c0 c1 HBi0 HNu HCb hN4 HU64
      obtain ⟨ux, hux⟩ : ∃ q, q = (plc u).1 := ⟨_, rfl⟩
      obtain ⟨uy, huy⟩ : ∃ q, q = (plc u).2 := ⟨_, rfl⟩
      rw [← hux] at c0 HNu
      rw [← huy] at c1 HNu
      have HS := Lib.hid hS
      have HKL := Lib.hid hlt
      clear hux huy hu64 hBf HB HV hA2 hR2 hS hlt
      generalize hLl : L.length = l at *
      have HLl := Lib.hid hLl
      clear hLl
      have hkl : k < l := HKL.out
      go_wp2_with fail
      refine (HNu.out _).mono ?_
      rintro e w5 ⟨A6, cap6, b6, off6, rfl, hA6, hR6, hb6⟩
      have S5 := HS.out.on hb6
      have HFar := Lib.hid (show 0 < (nbN u).length → (Value.slice (some (⟨b2, off2, none⟩ : Addr)) L.length c).ownBlock ≠ some b6 from fun h0 e => by
        have h1 := (HS.out.row.lt b6 e).2
        have h2 := (hA6 h0).2
        omega)
      have HA6 := Lib.hid (fun h0 => (hA6 h0).1)
      have HR6 := Lib.hid hR6
      have H64 := Lib.hid (fun i (hi : i < (nbN u).length) => (mem_nbN.1 (List.getElem_mem hi)))
      clear hb6 hA6 hR6 HNu HS c0 c1
      have HSk := Lib.hid (fun (L : List Nat) i (h : Bi xs (joined xs) L k u i) (hi : i < (nbN u).length) hs => h.skip hi hs)
      have HAd := Lib.hid (fun (L : List Nat) i (h : Bi xs (joined xs) L k u i) (hi : i < (nbN u).length) hg h0 hn => h.add hi hg h0 hn)
      have HCl := Lib.hid (fun (L : List Nat) i (h : Bi xs (joined xs) L k u i) (hi : (nbN u).length ≤ i) => h.close hi)
      have HLn := Lib.hid (fun (L : List Nat) i (h : Bi xs (joined xs) L k u i) => show k < L.length ∧ L.length ≤ 64 from ⟨(List.getElem?_eq_some_iff.1 h.at_).1, h.bf.len HMc.out⟩)
      have HUx := Lib.hid (fun (L : List Nat) M (hv : Un (joined xs) L M) i (hi : i < 64) (hc : col i = false) (h0 : 0 ≤ M i) => hv.next HMc.out hi hc h0)
      generalize nbN u = Nn at *
      obtain ⟨n4, hn4⟩ : ∃ n4, n4 = Nn.length := ⟨_, rfl⟩
      rw [← hn4] at hN4 ⊢
      have HN4 := Lib.hid hn4
      have HB0 := HBi0
      clear HBi0 hn4
      have HS5 := Lib.hid S5
      clear S5
      rw [← HLl.out] at *
      go_wp2_with fail
      go_loopg [4, 27] n4 (fun gg v ii wr => ∃ (i c : Nat) (L : List Nat) (M : Nat → Int) (A : Option Addr), i + gg = n4 ∧ ii = .int .i64 i ∧ v = .slice A L.length c ∧ Hid (Bi xs (joined xs) L k u i) ∧ Hid (Un (joined xs) L M) ∧ Hid (0 < n4 → (Value.slice A L.length c).ownBlock ≠ some b6) ∧ RS w m M A c L wr ∧ RdC wr b6 off6 (Nn.map plc))
      case atStart => exact ⟨0, c, L, M, _, by omega, rfl, rfl, HB0, HVo, Lib.hid (by rw [HN4.out]; exact HFar.out), HS5.out, HR6.out⟩
      case round =>
        clear HB0 HVo HFar HS5 HR6
        obtain ⟨i, c2, L2, M2, A2, hi4, rfl, rfl, HBi, HV, HF, S, R⟩ := hrel
        obtain ⟨hkL2, hL2⟩ := HLn.out L2 i HBi.out
        by_cases hlt : i < n4
        · have hiN : i < Nn.length := by rw [← HN4.out]; exact hlt
          obtain rfl := HA6.out (by omega)
          obtain ⟨c0, c1⟩ := R.2 i (plc Nn[i]) (by rw [List.getElem?_map, List.getElem?_eq_getElem hiN]; rfl)
          obtain ⟨v64, vadj⟩ := H64.out i hiN
          have hcv : col Nn[i] = false := by
            have h1 := col_adj u Nn[i] HU64.out v64 vadj
            rw [HCb.out] at h1
            cases hq : col Nn[i] with
            | false => rfl
            | true => rw [hq] at h1; cases h1
          obtain ⟨hV1, hV2⟩ := HV.out Nn[i] v64 hcv
          have HSkp := Lib.hid (fun (hneg : ¬ 0 ≤ M2 Nn[i]) => HSk.out L2 i HBi.out hiN (fun _ h0 => Classical.byContradiction fun hq => hneg (hV1.2 ⟨h0, hq⟩)))
          have HAdd := Lib.hid (fun (h0 : 0 ≤ M2 Nn[i]) => And.intro (HAd.out L2 i HBi.out hiN (HMc.out.mt.ok _ (hV1.1 h0).1).2.1 (hV1.1 h0).1 (hV1.1 h0).2) (And.intro (HUx.out L2 M2 HV.out Nn[i] v64 hcv h0) (hV2 h0)))
          clear hV1 hV2 hcv vadj
          generalize Nn[i] = v at c0 c1 v64 HSkp HAdd
          obtain ⟨vx, hvx⟩ : ∃ q, q = (plc v).1 := ⟨_, rfl⟩
          obtain ⟨vy, hvy⟩ : ∃ q, q = (plc v).2 := ⟨_, rfl⟩
          rw [← hvx] at c0
          rw [← hvy] at c1
          have HCv := Lib.hid (show Value.agg #[.int .i64 vx, .int .i64 vy] = cV v by rw [hvx, hvy]; rfl)
          obtain ⟨ox, hox⟩ : ∃ q : Int, q = (((M2 v).toNat % 8 : Nat) : Int) := ⟨_, rfl⟩
          obtain ⟨oy, hoy⟩ : ∃ q : Int, q = (((M2 v).toNat / 8 : Nat) : Int) := ⟨_, rfl⟩
          have HOx := Lib.hid (fun (e : M2 v = joined xs v) => show ox = (plc (joined xs v).toNat).1 ∧ oy = (plc (joined xs v).toNat).2 by rw [hox, hoy, e]; exact ⟨rfl, rfl⟩)
          have HLk := Lib.hid (fun W (h : OwnC W m M2) => show (Instr.lookup 54 (.map (some m)) (.agg #[.int .i64 vx, .int .i64 vy]) true).run Tryd.prog W = .ok (.tuple #[.agg #[.int .i64 ox, .int .i64 oy], .bool (decide (0 ≤ M2 v))]) W by
            rw [HCv.out, h.look v64, hox, hoy]; rfl)
          clear hvx hvy hox hoy
          have Z2 := At2.new wr vx vy
          have S2 := S.on (below_alloc1 wr (.cells #[.int .i64 vx, .int .i64 vy] 33))
          have R2 := R.on (below_alloc1 wr (.cells #[.int .i64 vx, .int .i64 vy] 33))
          clear S R
          go_upto_region 9 with fail
          generalize wr.alloc (.cells #[.int .i64 vx, .int .i64 vy] 33) = W2 at Z2 S2 R2 ⊢
          generalize wr.heap.size = zb at Z2 ⊢
          clear c0 c1
          have d0 := Z2.c0
          have d1 := Z2.c1
          have hlk := HLk.out W2 S2.own
          have Z3 := Z2.on (below_alloc1 W2 (.cells #[.int .i64 ox, .int .i64 oy] 33))
          have O3 := At2.new W2 ox oy
          have S3 := S2.on (below_alloc1 W2 (.cells #[.int .i64 ox, .int .i64 oy] 33))
          have R3 := R2.on (below_alloc1 W2 (.cells #[.int .i64 ox, .int .i64 oy] 33))
          clear S2 R2 Z2 HLk
          generalize hkq : decide (0 ≤ M2 v) = kq at hlk
          go_upto_region 10 with fail
          generalize W2.alloc (.cells #[.int .i64 ox, .int .i64 oy] 33) = W3 at Z3 O3 S3 R3 ⊢
          generalize W2.heap.size = zo at O3 ⊢
          clear d0 d1 hlk
          cases kq with
          | false =>
            have HB2 := Lib.hid (HSkp.out (of_decide_eq_false hkq))
            clear HSkp HAdd hkq HBi Z3 O3
            go_wp2
            go_roundg (gk - 1)
            case measure => omega
            case rel => exact ⟨i + 1, c2, L2, M2, A2, by omega, by go_num, rfl, HB2, HV, HF, S3, R3⟩
          | true =>
            obtain ⟨a1, a2, a3⟩ := HAdd.out (of_decide_eq_true hkq)
            obtain ⟨b1, b2⟩ := HOx.out a3
            have HB2 := Lib.hid a1
            have HV2 := Lib.hid a2
            have HO2 := Lib.hid (And.intro b1 b2)
            clear HSkp HAdd hkq HBi HV HOx a1 a2 a3 b1 b2
            generalize (joined xs v).toNat = x at HB2 HV2 HO2
            have d0 := Z3.c0
            have d1 := Z3.c1
            have e0 := O3.c0
            have e1 := O3.c1
            go_upto_region 12 with (first
              | (at_delete; refine del_c _ rfl _ _ rfl m M2 rfl S3.own v v64 (by rw [← HCv.out]; rfl) ?_; intro w4 hO4 hT4))
            have S4 := S3.drop hO4 hT4
            have O4 := at2_turned O3 hT4
            have R4 : RdC w4 b6 off6 (Nn.map plc) := R3.same hT4.grown.size (fun h0 => hT4.grown.block b6 (R3.1 h0) (fun e => RdC.not_map R3 S3.own h0 (by injection e)))
            clear S3 O3 Z3 R3 hO4 hT4 d0 d1 e0 e1
            have e0 := O4.c0
            have e1 := O4.c1
            have hs4 := S4.bel.size
            go_wp2_with (first
              | (at_builtin; refine wpList_append_lies _ rfl _ _ 28 rfl w.heap.size 33 i0 (.agg #[.int .i64 0, .int .i64 0]) 2 16 Tryd.underlying28 hi hz0 hz1 hz2 rfl (by decide) (.slice A2 L2.length c2) L2.length (rowC (L2.map plc)) (by rfl) (S4.row.alloc _) ⟨w4.heap.size, 0, none⟩ 1 1 [.int .i64 ox, .int .i64 oy] (by rfl) rfl (World.news_of_block (cs := #[.int .i64 ox, .int .i64 oy]) (t := 33) (fr := (0, 0)) (heap_alloc_new w4 _)) (by simp [Value.oneCell']) (by decide) (by unfold maxLen; omega) (by omega) (by simp; omega) (w4.heap.size + 1) (by simp) ?_; intro g5 c5 w5 hown5 hgrow5 hat5 hlt5))
            have S4' := S4.on (below_alloc1 w4 (.cells #[.int .i64 ox, .int .i64 oy] 33))
            have R4' := R4.on (below_alloc1 w4 (.cells #[.int .i64 ox, .int .i64 oy] 33))
            rw [HO2.out.1, HO2.out.2] at hown5
            have S5 := S4'.push (u := x) hown5 hgrow5
            have hnl : (Nn.map plc).length = n4 := by rw [List.length_map, HN4.out]
            have R5 : RdC w5 b6 off6 (Nn.map plc) := R4'.same hgrow5.size (fun h0 => hgrow5.block b6 (R4'.1 h0) (fun e => HF.out (by omega) e.symm))
            have HF5 := Lib.hid (show 0 < n4 → (Value.slice (some (⟨g5, 0, none⟩ : Addr)) (L2 ++ [x]).length c5).ownBlock ≠ some b6 from fun h0 e => by
              injection e with e
              have e : g5 = b6 := e
              rcases hat5 with q | q
              · exact HF.out h0 (by rw [q, e])
              · have := R4.1 (by omega); omega)
            have hln : (L2 ++ [x]).length = L2.length + 1 := by rw [List.length_append]; rfl
            clear hown5 hgrow5 hat5 hlt5 S4 S4' R4 R4' O4 e0 e1 hs4
            go_wp2
            go_roundg (gk - 1)
            case measure => omega
            case rel => exact ⟨i + 1, c5, L2 ++ [x], _, _, by omega, by go_num, by rw [hln], HB2, HV2, HF5, S5, R5⟩
        · obtain rfl : i = n4 := by omega
          have HBf := Lib.hid (HCl.out L2 i HBi.out (by rw [← HN4.out]; exact Nat.le_refl _))
          clear HBi R
          go_wp2
          go_roundg (65 - (k + 1))
          case measure => omega
          case rel => exact ⟨k + 1, c2, L2, M2, A2, by omega, by go_num, rfl, Lib.hid (.inl ⟨ho, HBf.out⟩), Lib.hid (fun _ => HV.out), Lib.hid (by omega), S⟩
    · obtain rfl : k = L.length := by have := HKl.out; omega
      obtain ⟨hE, h64, _⟩ := wit_end (Nat.le_refl _) HB.out
      obtain ⟨b2, off2, hA2, hR2⟩ := hS.rd
      have HSx := Lib.hid (HSt.out wr b2 off2 A c L h64 (by omega) hA2 hR2)
      have HCx := Lib.hid (fun W (hb : Below w.heap.size w W) => HCs.out W hb (setN L) (set_lt h64))
      rw [hE] at HCx
      have HBl := Lib.hid hS.bel
      unfold SetE at HSx
      obtain ⟨q, hq⟩ : ∃ q : Int, q = ((setN L : Nat) : Int) := ⟨_, rfl⟩
      rw [← hq] at HSx HCx
      clear hq hE h64 hA2 hR2 hS HB HV HKl HCs HSt HNv
      go_wp2_with fail
      refine HSx.out.mono ?_
      rintro e w7 ⟨rfl, hb7⟩
      have B7 := HBl.out.trans (hb7.mono HBl.out.size)
      clear hb7 HSx
      go_wp2_with fail
      refine (HCx.out _ B7).mono ?_
      rintro e w8 ⟨A8, cap8, rfl, hown8, hb8⟩
      have B8 := B7.trans (hb8.mono B7.size)
      have HO := Lib.hid (Reg.own_base hown8 B7.size)
      clear hown8 hb8 HCx
      go_wp2
      go_ret
      exact ⟨A8, cap8, rfl, HO.out, B8⟩
end Go.Proofs.YtgkgdgchkhdgjaaDoor.Def
