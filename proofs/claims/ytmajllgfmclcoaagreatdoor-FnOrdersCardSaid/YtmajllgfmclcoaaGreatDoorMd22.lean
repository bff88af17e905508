/- SetF, ExS in one text. -/
import Derived.Test.YtmajllgfmclcoaaGreatDoorMd21
import Derived.Test.YtmajllgfmclcoaaGreatDoorMd00
import Derived.Shelf.Spec.TrailingZeros
import Derived.Lib.LaidTab
import Derived.Maps.OwnOps
import Derived.Maps.OwnSet
import Derived.Maps.Views
import Derived.WalkSmall
import Derived.OneCell
set_option linter.unusedVariables false
set_option linter.unusedSimpArgs false
set_option maxRecDepth 100000
namespace Go.Proofs.YtmajllgfmclcoaaGreatDoor.Sets
open Go.RowKit Go.Proofs.YtmajllgfmclcoaaGreatDoor.Cell CellF Dom Dms Til Lis Go.Joins
open Reg hiding add_none
def tabZ : List Int := Lib.deBruijn64tab.map Int.ofNat
def Tab (w : World) : Prop := Lib.TabIs Tryz.prog w "math/bits.deBruijn64tab" .u8 tabZ
theorem gTab : Tryz.prog.globalNamed "math/bits.deBruijn64tab" = some 0 := by kernel_rfl
theorem tab_at : ∀ k, k < 64 → tabZ.getD k 0 = ((Lib.deBruijn64tab.getD k 0 : Nat) : Int) := by decide +kernel
theorem Tab.cell {w : World} (h : Tab w) {k : Nat} (hk : k < 64) : w.cell? ⟨0, k, none⟩ = some (.int .u8 ((Lib.deBruijn64tab.getD k 0 : Nat) : Int)) := by
  rw [← tab_at k hk]
  exact Lib.TabIs.cell h gTab k (by have : tabZ.length = 64 := by decide +kernel
                                    omega)
theorem Tab.lt {w : World} (h : Tab w) : 0 < w.heap.size := World.block_lt_of_cell? w _ (h.cell (k := 0) (by omega))
theorem Tab.same {w w' : World} (h : Tab w) (hb : w'.heap[0]? = w.heap[0]?) : Tab w' := by
  unfold Tab Lib.TabIs World.var? at *
  rw [gTab] at *
  simp only [Option.bind_some] at *
  rw [hb]; exact h
theorem Tab.on {w w' : World} {B : Nat} (h : Tab w) (hb : Below B w w') (hB : w.heap.size ≤ B) : Tab w' := h.same (hb.block _ (Nat.lt_of_lt_of_le h.lt hB))
theorem rowM_ones (L : List Dm) : ∀ v ∈ rowM L, v.oneCell' = true := by
  intro v hv
  unfold rowM at hv
  rw [List.mem_flatMap] at hv
  obtain ⟨d, _, hd⟩ := hv
  simp only [List.mem_cons, List.not_mem_nil, or_false] at hd
  rcases hd with rfl | rfl | rfl <;> rfl
set_option maxHeartbeats 1000000 in
theorem iTz_core (x k idx : Nat) (w : World) (hx0 : ((x : Int) == 0) = false)
    (key : IntKind.u64.wrap (bits BinOp.and IntKind.u64 (x : Int) (IntKind.u64.wrap (-(x : Int))) * 285870213051353865) / 288230376151711744 = (idx : Int))
    (hi : idx < 64) (hk : k < 64) (hcell : w.cell? ⟨0, idx, none⟩ = some (.int .u8 (k : Int))) :
    Calls Tryz.prog 134 #[.int .u64 (x : Int)] w fun e w' => e = .returned (.int .i64 (k : Int)) ∧ w' = w := by
  go_enter Tryz.func134, Tryz.ntmps134
  go_wp2_with (simp only [key])
  go_ret
  exact ⟨rfl, rfl⟩
theorem iTz (x : Nat) (h0 : x ≠ 0) (hx : x < 18446744073709551616) (w : World) (hT : Tab w) :
    Calls Tryz.prog 134 #[.int .u64 (x : Int)] w fun e w' => e = .returned (.int .i64 ((Lib.ctz 64 x : Nat) : Int)) ∧ w' = w := by
  obtain ⟨hlow, hk⟩ := Lib.lowest_bit 64 x h0 hx
  obtain ⟨hi, htab⟩ := Lib.deBruijn64_at _ hk
  have hcell := hT.cell hi
  rw [htab] at hcell
  exact iTz_core x _ _ w (by simp; omega) (tz64_key x _ hx h0 hlow) hi hk hcell
def plc (k : Nat) : Int × Int := (((k % 8 : Nat) : Int), ((k / 8 : Nat) : Int))
theorem atX_plc {k : Nat} (h : k < 64) : atX (k : Int) = (plc k).1 ∧ atY (k : Int) = (plc k).2 := by
  have : (0 : Int) ≤ k ∧ (k : Int) ≤ 63 := by omega
  constructor
  · unfold atX plc; simp [inB, this]
  · unfold atY plc; simp [inB, this]
theorem ok_plc {k : Nat} (h : k < 64) : Ok (plc k).1 (plc k).2 := by unfold Ok plc; simp only; omega
theorem index_plc {k : Nat} (h : k < 64) : indexN (plc k).1 (plc k).2 = (k : Int) := by
  unfold indexN
  simp only [ok_plc h, if_true]
  unfold plc; simp only; omega
def CelOf (k : Nat) (w : World) (e : Ending) (w' : World) : Prop := e = .returned (.agg #[.int .i64 (plc k).1, .int .i64 (plc k).2]) ∧ Below w.heap.size w w'
set_option maxHeartbeats 1000000 in
theorem iFirst (x : Nat) (h0 : x ≠ 0) (hx : x < 18446744073709551616) (w : World) (hT : Tab w) :
    Calls Tryz.prog 111 #[.int .u64 (x : Int)] w (CelOf (Lib.ctz 64 x) w) := by
  have HZ := Lh (fun W (hb : Below w.heap.size w W) => iTz x h0 hx W (hT.on hb NR))
  have hk := (ctz_is h0 hx).1
  have HA := Lh (fun W => iCellAt ((Lib.ctz 64 x : Nat) : Int) W)
  have HS := Lh (fun (o : Obj) => below_alloc1 w o)
  generalize Lib.ctz 64 x = k at HZ hk HA ⊢
  obtain ⟨e1, e2⟩ := atX_plc hk
  have HE := Lh (And.intro e1 e2)
  clear e1 e2 h0 hx hT
  obtain ⟨kk, hkk⟩ : ∃ kk : Int, kk = (k : Int) := ⟨_, rfl⟩
  rw [← hkk] at HZ HA HE
  clear hkk hk
  go_enter Tryz.func111, Tryz.ntmps111
  go_wp2_with fail
  have hb0 := HS.out (.cells #[.int .i64 0, .int .i64 0] 79)
  refine (HZ.out _ hb0).mono ?_
  rintro e w1 ⟨rfl, hw⟩
  have hw := hw.symm
  subst hw
  go_wp2_with fail
  have K0 := At2.new w 0 0
  generalize w.alloc (.cells #[.int .i64 0, .int .i64 0] 79) = W0 at hb0 K0 ⊢
  refine (HA.out _).mono ?_
  rintro e w2 ⟨rfl, hb2⟩
  have HP := Lh (rfl : plc k = plc k)
  have HE2 := Lh (show ∀ a b : Int, a = atX kk → b = atY kk → a = (plc k).1 ∧ b = (plc k).2 from fun a b h1 h2 => ⟨h1.trans HE.out.1, h2.trans HE.out.2⟩)
  have K2 := K0.on hb2
  have hbw := hb0.trans (hb2.mono hb0.size)
  clear HA HE HZ HS hb0 K0 hb2
  obtain ⟨u, hu⟩ : ∃ u, u = atX kk := ⟨_, rfl⟩
  obtain ⟨v, hv⟩ : ∃ v, v = atY kk := ⟨_, rfl⟩
  have HE3 := Lh (HE2.out u v hu hv)
  rw [← hu, ← hv]
  clear hu hv HE2
  have hlt := K2.lt
  have K3 := K2.on (below_alloc1 w2 (.cells #[.int .i64 u, .int .i64 v] 79))
  have N3 := At2.new w2 u v
  have hbw3 := hbw.trans ((below_alloc1 w2 (.cells #[.int .i64 u, .int .i64 v] 79)).mono hbw.size)
  go_upto_region 2 with fail
  generalize w2.alloc (.cells #[.int .i64 u, .int .i64 v] 79) = W3 at K3 N3 hbw3 ⊢
  generalize w2.heap.size = p3 at N3 ⊢
  have n0 := N3.c0
  have n1 := N3.c1
  have f0 := K3.f0
  have f1 := K3.f1
  have c0 := K3.c0
  have c1 := K3.c1
  have K4 := K3.put (a := u) (b := v)
  have hbw4 := (hbw3.setCell (p := ⟨w.heap.size, 0, none⟩) NR (.int .i64 u)).setCell (p := ⟨w.heap.size, 1, none⟩) NR (.int .i64 v)
  have d0 := K4.c0
  have d1 := K4.c1
  go_wp2
  exact bodyPost_ret (v := .agg #[.int .i64 u, .int .i64 v]) (by simp [results, Tryz.results111, go_sem, d0, d1]) rfl ⟨by rw [HE3.out.1, HE3.out.2], hbw4⟩
theorem plc_at {js : List Nat} {C : List (Int × Int)} (hC : C = js.map plc) {k : Nat} (hk : k < js.length) : C[k]? = some (plc js[k]) := by rw [hC, List.getElem?_map, List.getElem?_eq_getElem hk]; rfl
theorem shl_is {j : Nat} (h : j < 64) : Op.shift .shl .u64 1 .i64 (j : Int) = pure (.int .u64 ((2 ^ j : Nat) : Int)) := by
  rw [shift_shl .u64 .i64 1 (j : Int) (by omega) (by show (j : Int) ≤ 64; omega), Int.one_mul, Int.toNat_natCast]
  have e : IntKind.u64.wrap ((2 : Int) ^ j) = ((2 ^ j : Nat) : Int) := by
    have : ((2 ^ j : Nat) : Int) = (2 : Int) ^ j := by simp
    have h2 := one_lt h
    rw [← this, IntKind.wrap_u64]
    generalize 2 ^ j = t at h2 ⊢
    omega
  rw [e]
def SetE (x : Nat) (w : World) (e : Ending) (w' : World) : Prop := e = .returned (.int .u64 (x : Int)) ∧ Below w.heap.size w w'
set_option maxRecDepth 100000 in
set_option maxHeartbeats 1000000 in
theorem iSetOf (w : World) (A : Option Addr) (m cap b off : Nat) (C : List (Int × Int)) (js : List Nat) (hC : C = js.map plc) (hj : ∀ j ∈ js, j < 64) (hm : js.length = m) (hmm : (m : Int) ≤ 1000000) (hA : 0 < m → A = some ⟨b, off, none⟩) (R : RdC w b off C) :
    Calls Tryz.prog 114 #[.slice A m cap] w (SetE (setN js) w) := by
  have hCl : C.length = m := by rw [hC, List.length_map, hm]
  have HR := Lh R
  have HA := Lh hA
  have HI := Lh (fun x y W => iCellIndex x y W)
  have HP := Lh (fun k (hk : k < js.length) => plc_at hC hk)
  have HJ := Lh hj
  have HL := Lh (fun k => set_lt (l := js.take k) (fun j hj' => hj j (List.mem_of_mem_take hj')))
  have HM := Lh hm
  have HCl := Lh hCl
  have HF := Lh (show setN (js.take m) = setN js by rw [List.take_of_length_le (by omega)])
  have h00 : setN (js.take 0) = 0 := rfl
  clear hC hj R hA hm hCl
  go_enter Tryz.func114, Tryz.ntmps114
  go_wp2_with fail
  go_loopw [3, 8] (fun v i wr => ∃ k : Nat, k ≤ m ∧ i = .int .i64 k ∧ v = .int .u64 ((setN (js.take k) : Nat) : Int) ∧ Below w.heap.size w wr) (fun _ i _ => m - (intOf i).toNat)
  case atStart => exact ⟨0, Nat.zero_le _, rfl, rfl, Below.refl _ _⟩
  case round =>
    obtain ⟨k, hk, rfl, rfl, hb⟩ := hrel
    have hbs := hb.size
    by_cases hlt : k < m
    · have hkj : k < js.length := by rw [HM.out]; exact hlt
      obtain rfl := HA.out (by omega)
      have hbb : b < w.heap.size := HR.out.1 (by rw [HCl.out]; omega)
      obtain ⟨c0, c1⟩ := HR.out.2 k _ (HP.out k hkj)
      have c0 := (hb.cell (p := ⟨b, off + k * 2, none⟩) hbb).trans c0
      have c1 := (hb.cell (p := ⟨b, off + k * 2 + 1, none⟩) hbb).trans c1
      have hj64 : js[k] < 64 := HJ.out _ (List.getElem_mem hkj)
      have hor := u64_or_nat (setN (js.take k)) (2 ^ js[k]) (HL.out k) (one_lt hj64)
      rw [← set_take hkj] at hor
      have hsh := shl_is hj64
      have HIk := Lh (fun W => index_plc hj64 ▸ HI.out (plc js[k]).1 (plc js[k]).2 W)
      generalize js[k] = j at c0 c1 hor hsh HIk
      generalize (plc j).1 = x at c0 HIk
      generalize (plc j).2 = y at c1 HIk
      obtain ⟨q, hq⟩ : ∃ q : Int, q = (j : Int) := ⟨_, rfl⟩
      obtain ⟨t, ht⟩ : ∃ t : Int, t = ((2 ^ j : Nat) : Int) := ⟨_, rfl⟩
      rw [← ht] at hor hsh
      rw [← hq] at hsh HIk
      generalize setN (js.take k) = s at hor ⊢
      have HN := Lh (rfl : setN (js.take (k + 1)) = setN (js.take (k + 1)))
      clear hq ht hj64
      have hbw := hb.alloc hbs (.cells #[.int .i64 x, .int .i64 y] 79)
      have hz : (wr.alloc (.cells #[.int .i64 x, .int .i64 y] 79)).heap.size = wr.heap.size + 1 := by simp
      go_wp2_with fail
      refine (HIk.out _).mono ?_
      rintro e w1 ⟨rfl, hb1⟩
      have hbw1 := hbw.trans (hb1.mono (by omega))
      clear hbw hb1 hz c0 c1
      go_wp2
      go_roundw
      case rel => exact ⟨k + 1, by omega, by go_num, rfl, hbw1⟩
      case measure => (simp [intOf] <;> omega)
    · obtain rfl : k = m := by omega
      go_wp2
      go_ret
      rw [HF.out]
      exact ⟨rfl, hb⟩
def hasS (x : Nat) (u v : Int) : Bool := okB u v && bt x (v * 8 + u).toNat
theorem ok_place {u v : Int} (h : Ok u v) : ∃ k, k < 64 ∧ (u, v) = plc k ∧ (v * 8 + u).toNat = k := by
  unfold Ok at h
  refine ⟨(v * 8 + u).toNat, by omega, ?_, rfl⟩
  unfold plc
  rw [Prod.mk.injEq]
  constructor <;> omega
set_option maxRecDepth 100000 in
set_option maxHeartbeats 1000000 in
theorem iHas (x : Nat) (hx : x < 18446744073709551616) (u v : Int) (w : World) :
    Calls Tryz.prog 113 #[.int .u64 (x : Int), .agg #[.int .i64 u, .int .i64 v]] w (Bol (hasS x u v) w) := by
  have HV := Lh (fun W => isValid u v W)
  have K0 := At2.new w u v
  have B0 := below_alloc1 w (.cells #[.int .i64 u, .int .i64 v] 79)
  have HK := Lh K0
  have HB := Lh B0
  have HY := Lh (fun h : Ok u v => ok_place h)
  obtain ⟨r, hr⟩ : ∃ r, r = hasS x u v := ⟨_, rfl⟩
  rw [← hr]
  have HH := Lh (show r = (okB u v && bt x (v * 8 + u).toNat) from hr)
  clear hr
  clear K0 B0
  go_enter Tryz.func113, Tryz.ntmps113
  go_wp2_with fail
  generalize w.alloc (.cells #[.int .i64 u, .int .i64 v] 79) = W0 at HK HB ⊢
  have K0 := HK.out
  refine (HV.out _).mono ?_
  rintro e w1 ⟨rfl, hb1⟩
  have K1 := K0.on hb1
  have hbw := HB.out.trans (hb1.mono HB.out.size)
  have c0 := K1.c0
  have c1 := K1.c1
  clear HK HB HV K0 hb1
  by_cases hok : Ok u v
  · obtain ⟨k, hk, e, hk2⟩ := HY.out hok
    have HR := Lh (show r = (true && bt x k) by rw [HH.out, hk2, okB_of hok])
    rw [okB_of hok]
    have R2 : RdC (w1.alloc (.cells #[.int .i64 u, .int .i64 v] 79)) w1.heap.size 0 [(u, v)] := by
      have N := At2.new w1 u v
      refine ⟨fun _ => N.lt, fun j p hp => ?_⟩
      cases j with
      | zero => simp at hp; subst hp; exact ⟨by simp, by simp⟩
      | succ j => simp at hp
    have HS := Lh (fun c => iSetOf _ (some ⟨w1.heap.size, 0, none⟩) 1 c w1.heap.size 0 [(u, v)] [k] (by rw [e]; rfl) (fun j hj' => by rw [List.mem_singleton.1 hj']; exact hk) rfl (by omega) (fun _ => rfl) R2)
    have hs1 : setN [k] = 2 ^ k := by unfold setN; simp
    rw [hs1] at HS
    have hand := u64_and_nat x (2 ^ k) hx (one_lt hk)
    have hbw2 := hbw.alloc hbw.size (.cells #[.int .i64 u, .int .i64 v] 79)
    have hne : (((x &&& 2 ^ k : Nat) : Int) != (0 : Int)) = bt x k := by
      rw [Bool.eq_iff_iff, ← meets (x := x) (k := k)]
      simp
    obtain ⟨t, ht⟩ : ∃ t : Int, t = ((2 ^ k : Nat) : Int) := ⟨_, rfl⟩
    have HS := Lh (fun c => by have := HS.out c; unfold SetE at this; rw [← ht] at this; exact this)
    rw [← ht] at hand
    generalize x &&& 2 ^ k = y at hand hne
    generalize bt x k = q at hne HR
    clear HH HY hk e hk2 R2 hs1 ht hok K1
    have hz : (w1.alloc (.cells #[.int .i64 u, .int .i64 v] 79)).heap.size = w1.heap.size + 1 := by simp
    have hsz := hbw.size
    go_wp2_with fail
    refine (HS.out _).mono ?_
    rintro e w2 ⟨rfl, hb2⟩
    have hbw3 := hbw2.trans (hb2.mono (by omega))
    clear HS hb2 c0 c1
    go_wp2
    go_ret
    exact mkBol (by rw [HR.out]; rfl) hbw3
  · have HR := Lh (show r = false by rw [HH.out, okB_not hok]; rfl)
    rw [okB_not hok]
    clear HH HY
    go_wp2
    go_ret
    exact mkBol (by rw [HR.out]) hbw
theorem eqNil (w : World) : (binOp .eql 27 (.slice none 0 0) (.slice none 0 0)).run Tryz.prog w = .ok (.bool true) w := by kernel_rfl
theorem eqSome (a : Addr) (n c : Nat) (w : World) : (binOp .eql 27 (.slice (some a) n c) (.slice none 0 0)).run Tryz.prog w = .ok (.bool false) w := by kernel_rfl
def DmsE (L : List Dm) (m : Nat) (w : World) (e : Ending) (w' : World) : Prop := ∃ A cap, e = .returned (.slice A m cap) ∧ w'.ownsRow w.heap.size 63 3 (.slice A m cap) m (rowM L) ∧ Below w.heap.size w w'
set_option maxRecDepth 100000 in
set_option maxHeartbeats 1000000 in
theorem iClone (w : World) (A : Option Addr) (m cap lo : Nat) (L : List Dm) (hm : (m : Int) ≤ 1000) (hown : w.ownsRow lo 63 3 (.slice A m cap) m (rowM L)) :
    Calls Tryz.prog 110 #[.slice A m cap] w (DmsE L m w) := by
  obtain ⟨i0, hi, hz0, hz1, hz2⟩ := info_parts domInfo
  have hlen := hown.1
  rcases hown.2 with ⟨h1, h2⟩ | ⟨g, cap', cur, h1, hlo, hg, _⟩
  · injection h1 with e1 e2 e3
    subst e1 e2 e3
    have hq := eqNil w
    have HP := Lh (show DmsE L 0 w (.returned (.slice none 0 0)) w from ⟨none, 0, rfl, ⟨hlen, .inl ⟨rfl, rfl⟩⟩, Below.refl _ _⟩)
    clear hown hlen
    go_enter Tryz.func110, Tryz.ntmps110
    go_wp2
    go_ret
    exact HP.out
  · injection h1 with e1 e2 e3
    subst e1 e3
    have hq := eqSome ⟨g, 0, none⟩ m cap w
    have HAl := Lh (below_alloc1 w (.cells #[] 63))
    have HMd := Lh (World.ownsRow_made (e := 63) (size := 3) w #[] 0 NR (by unfold maxLen; omega) rfl)
    have HO := Lh (hown.alloc (.cells #[] 63))
    have HLn := Lh hlen
    have hsz : (w.alloc (.cells #[] 63)).heap.size = w.heap.size + 1 := by simp
    clear hown hlen
    go_enter Tryz.func110, Tryz.ntmps110
    go_wp2_with (first
      | (at_builtin
         refine append_any _ rfl _ _ 27 rfl w.heap.size 63 i0 (.agg #[.int .i64 0, .int .i64 0, .bool false]) 3 24 Tryz.underlying27 hi hz0 hz1 hz2 rfl (by decide) w.heap.size 0 0 [] (by rfl) HMd.out ⟨g, 0, none⟩ m cap (rowM L) (by rfl) HLn.out (fun j u hu => HO.out.cells (g := g) rfl j u hu) (rowM_ones _) (by unfold maxLen; omega) (by omega) (by omega) ?_
         intro g6 c6 w6 hown6 hgr6 hat6 hlt6
         have hb6 : Below w.heap.size w w6 := HAl.out.grown hgr6 (by omega) (fun q hq => by have hq2 : w.heap.size = q := by { injection hq }; omega)
         rw [Nat.zero_add, List.nil_append] at hown6))
    go_ret
    exact ⟨_, _, rfl, hown6, hb6⟩
end Go.Proofs.YtmajllgfmclcoaaGreatDoor.Sets
namespace Go.Proofs.YtmajllgfmclcoaaGreatDoor.Ext
open Go.RowKit Dms Til Dss Lis Sets Go.Joins
open Reg hiding add_none
open Go.Maps (Keyed)
open Go.ChangeMaps Go.MapKept
theorem uk : Tryz.prog.underlying 123 = some (.int .u64) := by kernel_rfl
theorem ub : Tryz.prog.underlying 4 = some .bool := by kernel_rfl
theorem um : Tryz.prog.underlying 120 = some (.map 123 4) := by kernel_rfl
theorem law : Keyed Tryz.prog 123 := Maps.int_keyed uk
theorem zeroB (w : World) : (zeroValue 4).run Tryz.prog w = .ok (.bool false) w := by kernel_rfl
noncomputable abbrev RE : Value → Option (DataW Unit × List MemPlace) := plainElem (H := Unit) Tryz.prog 4
theorem wfU {x : Nat} (h : x < 18446744073709551616) : (Lit.int .u64 (x : Int)).wf = true := by
 have h1 : IntKind.u64.min = 0 := by decide +kernel
 have h2 : IntKind.u64.max = 18446744073709551615 := by decide +kernel
 unfold Lit.wf
 simp [h1, h2]
 omega
theorem keyU {x : Nat} (h : x < 18446744073709551616) : keyOf Tryz.prog 123 (.int .u64 (x : Int)) = some (.int .u64 (x : Int)) := Maps.keyOf_int_mk uk (wfU h)
def MapOk (W : World) (b q : Nat) : Prop := ∃ n D, n ≤ q ∧ W.ownsMap Tryz.prog 123 RE b n D ∧ ∀ x : Nat, x < 18446744073709551616 → D.atKey (.int .u64 (x : Int)) (.lit (.bool false)) = .lit (.bool true) → LsG (bt x) = []
theorem elem_bool {v : Value} {z : DataW Unit × List MemPlace} (h : RE v = some z) : ∃ r, v = .bool r ∧ z.1 = .lit (.bool r) := by
 unfold RE plainElem at h
 simp only [ub] at h
 cases v <;> simp at h
 subst h
 exact ⟨_, rfl, rfl⟩
theorem MapOk.look {W : World} {b q x : Nat} (h : MapOk W b q) (hx : x < 18446744073709551616) : ∃ r, (Instr.lookup 120 (.map (some b)) (.int .u64 (x : Int)) false).run Tryz.prog W = .ok (.bool r) W ∧ (r = true → LsG (bt x) = []) := by
 obtain ⟨n, D, hn, ho, hd⟩ := h
 obtain ⟨v, ps, hrun, hv⟩ := ho.lookup law um (zeroB W) (plainElem_bool (H := Unit) ub false) (keyU hx)
 obtain ⟨r, rfl, hr⟩ := elem_bool hv
 refine ⟨r, hrun, fun e => hd x hx ?_⟩
 simp only at hr
 rw [hr, e]
theorem MapOk.same {W W' : World} {b q : Nat} (h : MapOk W b q) (hb : W'.heap[b]? = W.heap[b]?) : MapOk W' b q := by
 obtain ⟨n, D, hn, ⟨es, clock, h1, h2⟩, hd⟩ := h
 exact ⟨n, D, hn, ⟨es, clock, hb.trans h1, h2⟩, hd⟩
theorem MapOk.lt {W : World} {b q : Nat} (h : MapOk W b q) : b < W.heap.size := by
 obtain ⟨n, D, hn, ho, hd⟩ := h
 exact ho.lt
theorem MapOk.mono {W : World} {b q q' : Nat} (h : MapOk W b q) (hq : q ≤ q') : MapOk W b q' := by
 obtain ⟨n, D, hn, ho, hd⟩ := h
 exact ⟨n, D, by omega, ho, hd⟩
theorem MapOk.new (W : World) : MapOk (W.alloc (.map #[] 0)) W.heap.size 0 := ⟨0, .map [], Nat.le_refl _, World.ownsMap_made W _ _ _, fun x _ h => by cases h⟩
theorem MapOk.put {W W' : World} {b q n x : Nat} {D : DataW Unit} {r : Bool} (hn : n ≤ q) (ho : W.ownsMap Tryz.prog 123 RE b n D) (hd : ∀ x : Nat, x < 18446744073709551616 → D.atKey (.int .u64 (x : Int)) (.lit (.bool false)) = .lit (.bool true) → LsG (bt x) = [])
  (hx : x < 18446744073709551616) (ho' : W'.ownsMap Tryz.prog 123 RE b (n + 1) (D.put (.int .u64 (x : Int)) (.lit (.bool r)))) (hr : r = true → LsG (bt x) = []) : MapOk W' b (q + 1) := by
 refine ⟨n + 1, _, by omega, ho', fun y hy h => ?_⟩
 by_cases e : y = x
 ·subst e
  rw [Maps.atKey_put_same ho.isMap (law.key (keyU hy))] at h
  injection h with h; injection h with h
  exact hr h
 ·rw [Maps.atKey_put_other (fun q => e (by injection q with _ q; exact Int.ofNat.inj q))] at h
  exact hd y hy h
structure Kp (K : Nat → Prop) (W W' : World) : Prop where
 os : W'.os = W.os
 tape : W'.tape = W.tape
 output : W'.output = W.output
 size : W.heap.size ≤ W'.heap.size
 block : ∀ j, K j → W'.heap[j]? = W.heap[j]?
theorem Kp.refl (K : Nat → Prop) (W : World) : Kp K W W := ⟨rfl, rfl, rfl, Nat.le_refl _, fun _ _ => rfl⟩
theorem Kp.trans {K : Nat → Prop} {a b c : World} (h : Kp K a b) (k : Kp K b c) : Kp K a c :=
 ⟨k.os.trans h.os, k.tape.trans h.tape, k.output.trans h.output, Nat.le_trans h.size k.size, fun i hi => (k.block i hi).trans (h.block i hi)⟩
theorem Kp.less {K K' : Nat → Prop} {a b : World} (h : Kp K a b) (hk : ∀ j, K' j → K j) : Kp K' a b := ⟨h.os, h.tape, h.output, h.size, fun i hi => h.block i (hk i hi)⟩
theorem Kp.drew {K : Nat → Prop} {a b : World} (h : Kp K a b) : Kp K a b.drew := ⟨h.os, h.tape, h.output, h.size, h.block⟩
theorem Kp.of {K : Nat → Prop} {a b : World} (h : Below a.heap.size a b) (hk : ∀ j, K j → j < a.heap.size) : Kp K a b := ⟨h.os, h.tape, h.output, h.size, fun i hi => h.block i (hk i hi)⟩
theorem Kp.below {K : Nat → Prop} {a b : World} {B : Nat} (h : Kp K a b) (hk : ∀ j, j < B → K j) : Below B a b := ⟨h.os, h.tape, h.output, h.size, fun i hi => h.block i (hk i hi)⟩
theorem mem_ins {W : World} {lo hi h : Nat} {L : List (List Dm)} {S : List (Option Addr × Nat)} (k : Ins W lo hi h L S) {s : Option Addr × Nat} (hs : s ∈ S) : ∃ x, RowIn W lo hi 63 3 (.slice s.1 h s.2) h (rowM x) := by
 obtain ⟨i, hi1, e⟩ := List.getElem_of_mem hs
 exact ⟨_, k.2.1 i s _ (by rw [List.getElem?_eq_getElem hi1, e]) (List.getElem?_eq_getElem (by rw [← k.1]; exact hi1))⟩
theorem ins_grown {W W' : World} {lo hi h : Nat} {L : List (List Dm)} {S : List (Option Addr × Nat)} {row : Option Nat} (k : Ins W lo hi h L S) (hg : W.grownBy W' row) (hd : ∀ s ∈ S, ∀ g, row = some g → blk s.1 ≠ some g) : Ins W' lo hi h L S :=
 ⟨k.1, fun i s x hs hx => by
  have r := k.2.1 i s x hs hx
  refine ⟨r.1.kept hg ?_, r.2⟩
  rw [ownBlock_slice]
  cases hb : blk s.1 with
  | none => exact .inl rfl
  | some g => exact .inr (fun e => hd s (List.mem_of_getElem? hs) g e.symm hb), k.2.2⟩
theorem ins_set {W : World} {lo hi h : Nat} {L : List (List Dm)} {S : List (Option Addr × Nat)} (k : Ins W lo hi h L S) {a : Addr} (ha : a.block < lo) (u : Value) : Ins (W.setCell a u) lo hi h L S :=
 ⟨k.1, fun i s x hs hx => ⟨ownsRow_setCell_below (k.2.1 i s x hs hx).1 ha u, (k.2.1 i s x hs hx).2⟩, k.2.2⟩
def caps (bN bT : Nat) : Array Value := #[.pointer (some ⟨bT, 0, none⟩), .pointer (some ⟨bN, 0, none⟩), .pointer (some ⟨bT + 3, 0, none⟩), .pointer (some ⟨bT + 1, 0, none⟩), .pointer (some ⟨bT + 4, 0, none⟩)]
abbrev TLs : TypeId := 58
abbrev TL : TypeId := 27
structure Rw (K : Nat → Prop) (bT h : Nat) (Ts : List (List Dm)) (M : List Dm) (W : World) (A : Option Addr) (cap : Nat) (S : List (Option Addr × Nat)) (AL : Option Addr) (cL : Nat) : Prop where
 vT : W.heap[bT]? = some (.cells #[.slice A Ts.length cap] TLs)
 vL : W.heap[bT + 1]? = some (.cells #[.slice AL M.length cL] TL)
 oT : W.ownsRow (bT + 5) TL 1 (.slice A Ts.length cap) Ts.length (outs h S)
 oL : W.ownsRow (bT + 5) 63 3 (.slice AL M.length cL) M.length (rowM M)
 ins : Ins W (bT + 5) W.heap.size h Ts S
 dif : ∀ s ∈ S, Dif AL s.1
 kA : ∀ j, K j → blk A ≠ some j
 kL : ∀ j, K j → blk AL ≠ some j
structure St (K : Nat → Prop) (bN bT lim h q : Nat) (Ts : List (List Dm)) (M : List Dm) (W : World) : Prop where
 tab : Tab W
 kt : K 0
 kn : W.heap[bN]? = some (.cells #[.int .i64 (lim : Int)] 3)
 kh : W.heap[bT + 3]? = some (.cells #[.map (some (bT + 2))] 120)
 ke : W.heap[bT + 4]? = some (.cells #[.func (.func 109) #[] (caps bN bT)] 121)
 km : MapOk W (bT + 2) q
 hn : bN < bT
 ks : ∀ j, K j → j < W.heap.size ∧ j ≠ bT ∧ j ≠ bT + 1 ∧ j ≠ bT + 2
 rows : ∃ A cap S AL cL, Rw K bT h Ts M W A cap S AL cL
section
variable {K : Nat → Prop} {bN bT lim h q : Nat} {Ts : List (List Dm)} {M : List Dm} {W W' W2 : World}
theorem Rw.on {A : Option Addr} {cap : Nat} {S : List (Option Addr × Nat)} {AL : Option Addr} {cL : Nat} (k : Rw K bT h Ts M W A cap S AL cL) (hb : Below W.heap.size W W') : Rw K bT h Ts M W' A cap S AL cL :=
 ⟨(hb.block _ (lt_of_block k.vT)).trans k.vT, (hb.block _ (lt_of_block k.vL)).trans k.vL, Reg.own_below k.oT hb NR, Reg.own_below k.oL hb NR, (k.ins.on hb).wide NR hb.size, k.dif, k.kA, k.kL⟩
theorem St.on (k : St K bN bT lim h q Ts M W) (hb : Below W.heap.size W W') : St K bN bT lim h q Ts M W' := by
 obtain ⟨A, cap, S, AL, cL, r⟩ := k.rows
 exact ⟨k.tab.on hb NR, k.kt, (hb.block _ (lt_of_block k.kn)).trans k.kn, (hb.block _ (lt_of_block k.kh)).trans k.kh, (hb.block _ (lt_of_block k.ke)).trans k.ke, k.km.same (hb.block _ k.km.lt), k.hn, fun j hj => ⟨Nat.lt_of_lt_of_le (k.ks j hj).1 hb.size, (k.ks j hj).2⟩, A, cap, S, AL, cL, r.on hb⟩
theorem St.drew (k : St K bN bT lim h q Ts M W) : St K bN bT lim h q Ts M W.drew := by
 obtain ⟨A, cap, S, AL, cL, r⟩ := k.rows
 exact ⟨k.tab, k.kt, k.kn, k.kh, k.ke, k.km.same rfl, k.hn, k.ks, A, cap, S, AL, cL, ⟨r.vT, r.vL, r.oT, r.oL, r.ins, r.dif, r.kA, r.kL⟩⟩
theorem St.kp (k : St K bN bT lim h q Ts M W) (hb : Below W.heap.size W W') : Kp K W W' := Kp.of hb (fun j hj => (k.ks j hj).1)
theorem St.less (k : St K bN bT lim h q Ts M W) {P : Nat → Prop} (hP : ∀ j, P j → K j) (hg : P 0) : St P bN bT lim h q Ts M W := by
 obtain ⟨A, cap, S, AL, cL, r⟩ := k.rows
 exact ⟨k.tab, hg, k.kn, k.kh, k.ke, k.km, k.hn, fun j hj => k.ks j (hP j hj), A, cap, S, AL, cL, ⟨r.vT, r.vL, r.oT, r.oL, r.ins, r.dif, fun j hj => r.kA j (hP j hj), fun j hj => r.kL j (hP j hj)⟩⟩
theorem row_from {e size n c : Nat} {A : Option Addr} {xs : List Value} (ho : W.ownsRow (bT + 5) e size (.slice A n c) n xs) {g : Nat} (hg : blk A = some g) : bT + 5 ≤ g ∧ g < W.heap.size := ho.lt g (by rw [ownBlock_slice]; exact hg)
theorem St.grow_var {W1 : World} {row : Option Nat} (k : St K bN bT lim h q Ts M W) (hrow : ∀ g, row = some g → bT + 5 ≤ g) (hk : ∀ j, K j → row ≠ some j) (hg : W.grownBy W1 row) (v : Nat) (hv : v = bT ∨ v = bT + 1) (u : Value) :
  Tab (W1.setCell ⟨v, 0, none⟩ u) ∧ (W1.setCell ⟨v, 0, none⟩ u).heap[bN]? = W.heap[bN]? ∧ (W1.setCell ⟨v, 0, none⟩ u).heap[bT + 2]? = W.heap[bT + 2]? ∧ (W1.setCell ⟨v, 0, none⟩ u).heap[bT + 3]? = W.heap[bT + 3]? ∧ (W1.setCell ⟨v, 0, none⟩ u).heap[bT + 4]? = W.heap[bT + 4]? ∧ Kp K W (W1.setCell ⟨v, 0, none⟩ u) := by
 have hn := k.hn
 have one : ∀ j, j < W.heap.size → row ≠ some j → j ≠ v → (W1.setCell ⟨v, 0, none⟩ u).heap[j]? = W.heap[j]? := fun j h1 h2 h3 =>
  (Below.heap_setCell W1 ⟨v, 0, none⟩ u j h3).trans (hg.block j h1 (fun e => h2 e.symm))
 have low : ∀ j, j < bT + 5 → row ≠ some j := fun j hj e => by have := hrow j e; omega
 have kks : ∀ j, K j → (W1.setCell ⟨v, 0, none⟩ u).heap[j]? = W.heap[j]? := fun j hj => by
  obtain ⟨a, b, c, d⟩ := k.ks j hj
  exact one j a (hk j hj) (by rcases hv with e | e <;> rw [e] <;> assumption)
 refine ⟨k.tab.same (kks _ k.kt), one bN (lt_of_block k.kn) (low _ (by omega)) (by omega), one (bT + 2) k.km.lt (low _ (by omega)) (by omega), one (bT + 3) (lt_of_block k.kh) (low _ (by omega)) (by omega), one (bT + 4) (lt_of_block k.ke) (low _ (by omega)) (by omega), hg.os, hg.tape, hg.output, ?_, kks⟩
 show _ ≤ (W1.heap.modify _ _).size
 rw [Array.size_modify]; exact hg.size
theorem St.push {W1 : World} {A : Option Addr} {cap : Nat} {S : List (Option Addr × Nat)} {AL : Option Addr} {cL : Nat} (k : St K bN bT lim h q Ts M W) (r : Rw K bT h Ts M W A cap S AL cL) {d : Dm} {g cL' : Nat}
  (hg : W.grownBy W1 (blk AL)) (hat : some g = blk AL ∨ g = W.heap.size) (ho : W1.ownsRow (bT + 5) 63 3 (.slice (some ⟨g, 0, none⟩) (M.length + 1) cL') (M.length + 1) (rowM M ++ [.int .i64 d.1, .int .i64 d.2.1, .bool d.2.2])) :
  St K bN bT lim h q Ts (M ++ [d]) (W1.setCell ⟨bT + 1, 0, none⟩ (.slice (some ⟨g, 0, none⟩) (M.length + 1) cL')) ∧ Kp K W (W1.setCell ⟨bT + 1, 0, none⟩ (.slice (some ⟨g, 0, none⟩) (M.length + 1) cL')) := by
 have hlow : ∀ g, blk AL = some g → bT + 5 ≤ g := fun g e => (row_from r.oL e).1
 obtain ⟨a1, a2, a3, a4, a5, a6⟩ := k.grow_var hlow (fun j hj => r.kL j hj) hg (bT + 1) (.inr rfl) (.slice (some ⟨g, 0, none⟩) (M.length + 1) cL')
 have hsz := hg.size
 have hsz2 : (W1.setCell ⟨bT + 1, 0, none⟩ (.slice (some ⟨g, 0, none⟩) (M.length + 1) cL')).heap.size = W1.heap.size := by show (W1.heap.modify _ _).size = _; rw [Array.size_modify]
 have hv1 : W1.heap[bT + 1]? = some (.cells #[.slice AL M.length cL] TL) := (hg.block _ (lt_of_block r.vL) (fun e => by have := hlow _ e.symm; omega)).trans r.vL
 have hTn : (Value.slice A Ts.length cap).ownBlock = none ∨ (Value.slice A Ts.length cap).ownBlock ≠ blk AL := by
  rw [ownBlock_slice]
  cases hA : blk A with
  | none => exact .inl rfl
  | some j => exact .inr (fun e => dif_types r.oT r.oL (by decide) j hA e.symm)
 refine ⟨⟨a1, k.kt, a2.trans k.kn, a4.trans k.kh, a5.trans k.ke, k.km.same a3, k.hn, fun j hj => ⟨by have := (k.ks j hj).1; omega, (k.ks j hj).2⟩, A, cap, S, some ⟨g, 0, none⟩, cL', ?_⟩, a6⟩
 refine ⟨?_, ?_, ?_, ?_, ?_, fun s hs j h1 h2 => ?_, r.kA, fun j hj e => ?_⟩
 ·rw [Below.heap_setCell _ _ _ _ (by show bT ≠ bT + 1; omega)]
  exact (hg.block _ (lt_of_block r.vT) (fun e => by have := hlow _ e.symm; omega)).trans r.vT
 ·rw [List.length_append, List.length_singleton]; exact one_setCell hv1
 ·exact ownsRow_setCell_below (r.oT.kept hg hTn) (by show bT + 1 < _; omega) _
 ·rw [rowM_snoc, List.length_append, List.length_singleton]
  exact ownsRow_setCell_below ho (by show bT + 1 < _; omega) _
 ·refine ins_set (Ins.wide (ins_grown r.ins hg (fun s hs j e1 e2 => r.dif s hs j e1 e2)) NR ?_) (by show bT + 1 < _; omega) _
  rw [hsz2]; exact hsz
 ·have h3 : g = j := by simpa [blk] using h1
  subst h3
  rcases hat with e | e
  ·exact r.dif s hs g e.symm h2
  ·obtain ⟨x, hx⟩ := mem_ins r.ins hs
   have := hx.2 g (by rw [ownBlock_slice]; exact h2)
   omega
 ·have h3 : g = j := by simpa [blk] using e
  subst h3
  rcases hat with e | e
  ·exact r.kL g hj e.symm
  ·have := (k.ks g hj).1; omega
theorem St.pop {A : Option Addr} {cap : Nat} {S : List (Option Addr × Nat)} {g cL : Nat} {d : Dm} (k : St K bN bT lim h q Ts (M ++ [d]) W) (r : Rw K bT h Ts (M ++ [d]) W A cap S (some ⟨g, 0, none⟩) cL) :
  St K bN bT lim h q Ts M (W.setCell ⟨bT + 1, 0, none⟩ (.slice (some ⟨g, 0, none⟩) M.length cL)) ∧ Kp K W (W.setCell ⟨bT + 1, 0, none⟩ (.slice (some ⟨g, 0, none⟩) M.length cL)) := by
 have hg0 : W.grownBy W none := ⟨rfl, rfl, rfl, Nat.le_refl _, fun _ _ _ => rfl⟩
 obtain ⟨a1, a2, a3, a4, a5, a6⟩ := k.grow_var (row := none) (fun g e => by cases e) (fun j hj e => by cases e) hg0 (bT + 1) (.inr rfl) (.slice (some ⟨g, 0, none⟩) M.length cL)
 have hsz2 : (W.setCell ⟨bT + 1, 0, none⟩ (.slice (some ⟨g, 0, none⟩) M.length cL)).heap.size = W.heap.size := by show (W.heap.modify _ _).size = _; rw [Array.size_modify]
 have hoL := r.oL
 rw [List.length_append, List.length_singleton, rowM_snoc] at hoL
 have hp := ownsRow_pop (rowM_length M) hoL
 refine ⟨⟨a1, k.kt, a2.trans k.kn, a4.trans k.kh, a5.trans k.ke, k.km.same a3, k.hn, fun j hj => ⟨by rw [hsz2]; exact (k.ks j hj).1, (k.ks j hj).2⟩, A, cap, S, some ⟨g, 0, none⟩, cL, ?_⟩, a6⟩
 refine ⟨?_, one_setCell r.vL, ownsRow_setCell_below r.oT (by show bT + 1 < _; omega) _, ownsRow_setCell_below hp (by show bT + 1 < _; omega) _, ?_, r.dif, r.kA, r.kL⟩
 ·rw [Below.heap_setCell _ _ _ _ (by show bT ≠ bT + 1; omega)]; exact r.vT
 ·rw [hsz2]; exact ins_set r.ins (by show bT + 1 < _; omega) _
theorem St.add {W1 : World} {A : Option Addr} {cap : Nat} {S : List (Option Addr × Nat)} {AL : Option Addr} {cL : Nat} (k : St K bN bT lim h q Ts M W) (r : Rw K bT h Ts M W A cap S AL cL) {x : List Dm} {A' : Option Addr} {c' g capT : Nat}
  (hx : RowIn W (bT + 5) W.heap.size 63 3 (.slice A' h c') h (rowM x)) (hd1 : Dif AL A') (hd2 : ∀ s ∈ S, Dif s.1 A')
  (hg : W.grownBy W1 (blk A)) (hat : some g = blk A ∨ g = W.heap.size) (ho : W1.ownsRow (bT + 5) TL 1 (.slice (some ⟨g, 0, none⟩) (Ts.length + 1) capT) (Ts.length + 1) (outs h S ++ [.slice A' h c'])) :
  St K bN bT lim h q (Ts ++ [x]) M (W1.setCell ⟨bT, 0, none⟩ (.slice (some ⟨g, 0, none⟩) (Ts.length + 1) capT)) ∧ Kp K W (W1.setCell ⟨bT, 0, none⟩ (.slice (some ⟨g, 0, none⟩) (Ts.length + 1) capT)) := by
 have hlow : ∀ g, blk A = some g → bT + 5 ≤ g := fun g e => (row_from r.oT e).1
 obtain ⟨a1, a2, a3, a4, a5, a6⟩ := k.grow_var hlow (fun j hj => r.kA j hj) hg bT (.inl rfl) (.slice (some ⟨g, 0, none⟩) (Ts.length + 1) capT)
 have hsz := hg.size
 have hsz2 : (W1.setCell ⟨bT, 0, none⟩ (.slice (some ⟨g, 0, none⟩) (Ts.length + 1) capT)).heap.size = W1.heap.size := by show (W1.heap.modify _ _).size = _; rw [Array.size_modify]
 have hv1 : W1.heap[bT]? = some (.cells #[.slice A Ts.length cap] TLs) := (hg.block _ (lt_of_block r.vT) (fun e => by have := hlow _ e.symm; omega)).trans r.vT
 have hLn : (Value.slice AL M.length cL).ownBlock = none ∨ (Value.slice AL M.length cL).ownBlock ≠ blk A := by
  rw [ownBlock_slice]
  cases hA : blk AL with
  | none => exact .inl rfl
  | some j => exact .inr (fun e => dif_types r.oL r.oT (by decide) j hA e.symm)
 have hI : Ins W (bT + 5) W.heap.size h (Ts ++ [x]) (S ++ [(A', c')]) := by
  refine ⟨by rw [List.length_append, List.length_append, r.ins.1]; rfl, fun i s y hs hy => ?_, ?_⟩
  ·by_cases hi' : i < S.length
   ·rw [List.getElem?_append_left hi'] at hs
    rw [List.getElem?_append_left (by rw [← r.ins.1]; exact hi')] at hy
    exact r.ins.2.1 i s y hs hy
   ·rw [List.getElem?_append_right (by omega)] at hs
    rw [List.getElem?_append_right (by rw [← r.ins.1]; omega), ← r.ins.1] at hy
    cases hi2 : i - S.length with
    | zero =>
     rw [hi2] at hs hy
     simp at hs hy
     subst hs; subst hy
     exact hx
    | succ m => rw [hi2] at hs; simp at hs
  ·rw [List.pairwise_append]
   refine ⟨r.ins.2.2, by simp, fun s hs t ht => ?_⟩
   rw [List.mem_singleton] at ht
   subst ht
   exact hd2 s hs
 have hout : ∀ s ∈ S ++ [(A', c')], ∀ j, blk A = some j → blk s.1 ≠ some j := fun s hs j e1 e2 => by
  obtain ⟨y, hy⟩ := mem_ins hI hs
  exact dif_types r.oT hy.1 (by decide) j e1 e2
 refine ⟨⟨a1, k.kt, a2.trans k.kn, a4.trans k.kh, a5.trans k.ke, k.km.same a3, k.hn, fun j hj => ⟨by have := (k.ks j hj).1; omega, (k.ks j hj).2⟩, some ⟨g, 0, none⟩, capT, S ++ [(A', c')], AL, cL, ?_⟩, a6⟩
 refine ⟨?_, ?_, ?_, ?_, ?_, fun s hs => ?_, fun j hj e => ?_, r.kL⟩
 ·rw [List.length_append, List.length_singleton]; exact one_setCell hv1
 ·rw [Below.heap_setCell _ _ _ _ (by show bT + 1 ≠ bT; omega)]
  exact (hg.block _ (lt_of_block r.vL) (fun e => by have := hlow _ e.symm; omega)).trans r.vL
 ·have e : outs h (S ++ [(A', c')]) = outs h S ++ [.slice A' h c'] := by unfold outs; rw [List.map_append]; rfl
  rw [e, List.length_append, List.length_singleton]
  exact ownsRow_setCell_below ho (by show bT < _; omega) _
 ·exact ownsRow_setCell_below (r.oL.kept hg hLn) (by show bT < _; omega) _
 ·refine ins_set (Ins.wide (ins_grown hI hg hout) NR ?_) (by show bT < _; omega) _
  rw [hsz2]; exact hsz
 ·rcases List.mem_append.1 hs with hs | hs
  ·exact r.dif s hs
  ·rw [List.mem_singleton] at hs
   subst hs; exact hd1
 ·have h3 : g = j := by simpa [blk] using e
  subst h3
  rcases hat with e | e
  ·exact r.kA g hj e.symm
  ·have := (k.ks g hj).1; omega
theorem St.note (k : St K bN bT lim h q Ts M W) {q' : Nat} (hg : W.grownBy W' (some (bT + 2))) (hm : MapOk W' (bT + 2) q') : St K bN bT lim h q' Ts M W' ∧ Kp K W W' := by
 obtain ⟨A, cap, S, AL, cL, r⟩ := k.rows
 have hn := k.hn
 have one : ∀ j, j < W.heap.size → j ≠ bT + 2 → W'.heap[j]? = W.heap[j]? := fun j h1 h2 => hg.block j h1 (fun e => by injection e with e; exact h2 e)
 have kks : ∀ j, K j → W'.heap[j]? = W.heap[j]? := fun j hj => one j (k.ks j hj).1 (k.ks j hj).2.2.2
 have far : ∀ (B : Option Addr) (n c : Nat), (∀ g, blk B = some g → bT + 5 ≤ g) → (Value.slice B n c).ownBlock = none ∨ (Value.slice B n c).ownBlock ≠ some (bT + 2) := fun B n c h => by
  rw [ownBlock_slice]
  cases hB : blk B with
  | none => exact .inl rfl
  | some g => exact .inr (fun e => by injection e with e; have := h g hB; omega)
 refine ⟨⟨k.tab.same (kks _ k.kt), k.kt, (one _ (lt_of_block k.kn) (by omega)).trans k.kn, (one _ (lt_of_block k.kh) (by omega)).trans k.kh, (one _ (lt_of_block k.ke) (by omega)).trans k.ke, hm, k.hn, fun j hj => ⟨Nat.lt_of_lt_of_le (k.ks j hj).1 hg.size, (k.ks j hj).2⟩, A, cap, S, AL, cL, ?_⟩, ⟨hg.os, hg.tape, hg.output, hg.size, kks⟩⟩
 refine ⟨(one _ (lt_of_block r.vT) (by omega)).trans r.vT, (one _ (lt_of_block r.vL) (by omega)).trans r.vL, r.oT.kept hg (far _ _ _ (fun g e => (row_from r.oT e).1)), r.oL.kept hg (far _ _ _ (fun g e => (row_from r.oL e).1)), (ins_grown r.ins hg (fun s hs g e1 e2 => ?_)).wide NR hg.size, r.dif, r.kA, r.kL⟩
 injection e1 with e1
 obtain ⟨x, hx⟩ := mem_ins r.ins hs
 have := (hx.1.lt g (by rw [ownBlock_slice]; exact e2)).1
 omega
end
end Go.Proofs.YtmajllgfmclcoaaGreatDoor.Ext
