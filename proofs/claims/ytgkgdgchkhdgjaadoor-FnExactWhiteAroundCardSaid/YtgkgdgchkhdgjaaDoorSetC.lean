/- Sets of cells, the program's: the set of some cells; is a cell in a set. -/
import Derived.Test.YtgkgdgchkhdgjaaDoorSetP
import Derived.Test.YtgkgdgchkhdgjaaDoorTilU
import Derived.Test.YtgkgdgchkhdgjaaDoorCellF
namespace Go.Proofs.YtgkgdgchkhdgjaaDoor.Sets
set_option linter.unusedVariables false
set_option linter.unusedSimpArgs false
open Go.RowKit Go.Proofs.YtgkgdgchkhdgjaaDoor.Base Go.Proofs.YtgkgdgchkhdgjaaDoor.Pure Go.Proofs.YtgkgdgchkhdgjaaDoor.Cell Go.Proofs.YtgkgdgchkhdgjaaDoor.CellF Go.Proofs.YtgkgdgchkhdgjaaDoor.Cels Go.Proofs.YtgkgdgchkhdgjaaDoor.Dom Go.Proofs.YtgkgdgchkhdgjaaDoor.Dms Go.Proofs.YtgkgdgchkhdgjaaDoor.Til Go.Joins
open Go.Proofs.YtgkgdgchkhdgjaaDoor.Reg hiding Yes add_none

/-- the cell of a place. -/
def plc (k : Nat) : Int × Int := (((k % 8 : Nat) : Int), ((k / 8 : Nat) : Int))
theorem atX_plc {k : Nat} (h : k < 64) : atX (k : Int) = (plc k).1 ∧ atY (k : Int) = (plc k).2 := by
  have : (0 : Int) ≤ k ∧ (k : Int) ≤ 63 := by omega
  constructor
  · unfold atX plc; simp [inB, this]
  · unfold atY plc; simp [inB, this]
theorem ok_plc {k : Nat} (h : k < 64) : Ok (plc k).1 (plc k).2 := by unfold Ok plc; simp only; omega
theorem index_plc {k : Nat} (h : k < 64) : indexN (plc k).1 (plc k).2 = (k : Int) := by
  unfold indexN
  simp only [ok_plc h, if_true]
  unfold plc; simp only; omega
theorem plc_at {js : List Nat} {C : List (Int × Int)} (hC : C = js.map plc) {k : Nat} (hk : k < js.length) : C[k]? = some (plc js[k]) := by rw [hC, List.getElem?_map, List.getElem?_eq_getElem hk]; rfl
theorem shl_is {j : Nat} (h : j < 64) : Op.shift .shl .u64 1 .i64 (j : Int) = pure (.int .u64 ((2 ^ j : Nat) : Int)) := by
  rw [shift_shl .u64 .i64 1 (j : Int) (by omega) (by show (j : Int) ≤ 64; omega), Int.one_mul, Int.toNat_natCast]
  have e : IntKind.u64.wrap ((2 : Int) ^ j) = ((2 ^ j : Nat) : Int) := by
    have : ((2 ^ j : Nat) : Int) = (2 : Int) ^ j := by simp
    have h2 := one_lt h
    rw [← this, IntKind.wrap_u64]
    generalize 2 ^ j = t at h2 ⊢
    omega
  rw [e]
/-- a set as an answer. -/
def SetE (x : Nat) (w : World) (e : Ending) (w' : World) : Prop := e = .returned (.int .u64 (x : Int)) ∧ Below w.heap.size w w'
set_option maxRecDepth 100000 in
set_option maxHeartbeats 1000000 in
theorem iSetOf (w : World) (A : Option Addr) (m cap b off : Nat) (C : List (Int × Int)) (js : List Nat) (hC : C = js.map plc) (hj : ∀ j ∈ js, j < 64) (hm : js.length = m) (hmm : (m : Int) ≤ 1048576) (hA : 0 < m → A = some ⟨b, off, none⟩) (R : RdC w b off C) :
    Calls Tryd.prog 33 #[.slice A m cap] w (SetE (setN js) w) := by
  have hCl : C.length = m := by rw [hC, List.length_map, hm]
  have HR := Lib.hid R
  have HA := Lib.hid hA
  have HI := Lib.hid (fun x y W => iCellIndex x y W)
  have HP := Lib.hid (fun k (hk : k < js.length) => plc_at hC hk)
  have HJ := Lib.hid hj
  have HL := Lib.hid (fun k => set_lt (l := js.take k) (fun j hj' => hj j (List.mem_of_mem_take hj')))
  have HM := Lib.hid hm
  have HCl := Lib.hid hCl
  have HF := Lib.hid (show setN (js.take m) = setN js by rw [List.take_of_length_le (by omega)])
  have h00 : setN (js.take 0) = 0 := rfl
  clear hC hj R hA hm hCl
  go_enter Tryd.func33, Tryd.ntmps33
  go_wp2_with fail
  go_loopw [3, 8] (fun v i wr => ∃ k : Nat, k ≤ m ∧ i = .int .i64 k ∧ v = .int .u64 ((setN (js.take k) : Nat) : Int) ∧ Below w.heap.size w wr) (fun _ i _ => m - (intOf i).toNat)
  case atStart => exact ⟨0, Nat.zero_le _, rfl, rfl, Below.refl _ _⟩
  case round =>
    obtain ⟨k, hk, rfl, rfl, hb⟩ := hrel
    have hbs := hb.size
    by_cases hlt : k < m
    · have hkj : k < js.length := by rw [HM.out]; exact hlt
      obtain rfl := HA.out (by omega)
      have hbb : b < w.heap.size := HR.out.1 (by rw [HCl.out]; omega)
      obtain ⟨c0, c1⟩ := HR.out.2 k _ (HP.out k hkj)
      have c0 := (hb.cell (p := ⟨b, off + k * 2, none⟩) hbb).trans c0
      have c1 := (hb.cell (p := ⟨b, off + k * 2 + 1, none⟩) hbb).trans c1
      have hj64 : js[k] < 64 := HJ.out _ (List.getElem_mem hkj)
      have hor := u64_or_nat (setN (js.take k)) (2 ^ js[k]) (HL.out k) (one_lt hj64)
      rw [← set_take hkj] at hor
      have hsh := shl_is hj64
      have HIk := Lib.hid (fun W => index_plc hj64 ▸ HI.out (plc js[k]).1 (plc js[k]).2 W)
      generalize js[k] = j at c0 c1 hor hsh HIk
      generalize (plc j).1 = x at c0 HIk
      generalize (plc j).2 = y at c1 HIk
      obtain ⟨q, hq⟩ : ∃ q : Int, q = (j : Int) := ⟨_, rfl⟩
      obtain ⟨t, ht⟩ : ∃ t : Int, t = ((2 ^ j : Nat) : Int) := ⟨_, rfl⟩
      rw [← ht] at hor hsh
      rw [← hq] at hsh HIk
      generalize setN (js.take k) = s at hor ⊢
      have HN := Lib.hid (rfl : setN (js.take (k + 1)) = setN (js.take (k + 1)))
      clear hq ht hj64
      have hbw := hb.alloc hbs (.cells #[.int .i64 x, .int .i64 y] 33)
      have hz : (wr.alloc (.cells #[.int .i64 x, .int .i64 y] 33)).heap.size = wr.heap.size + 1 := by simp
      go_wp2_with fail
      refine (HIk.out _).mono ?_
      rintro e w1 ⟨rfl, hb1⟩
      have hbw1 := hbw.trans (hb1.mono (by omega))
      clear hbw hb1 hz c0 c1
      go_wp2
      go_roundw
      case rel => exact ⟨k + 1, by omega, by go_num, rfl, hbw1⟩
      case measure => (simp [intOf] <;> omega)
    · obtain rfl : k = m := by omega
      go_wp2
      go_ret
      rw [HF.out]
      exact ⟨rfl, hb⟩

/-- is a cell in a set. -/
def hasS (x : Nat) (u v : Int) : Bool := okB u v && bt x (v * 8 + u).toNat
theorem ok_place {u v : Int} (h : Ok u v) : ∃ k, k < 64 ∧ (u, v) = plc k ∧ (v * 8 + u).toNat = k := by
  unfold Ok at h
  refine ⟨(v * 8 + u).toNat, by omega, ?_, rfl⟩
  unfold plc
  rw [Prod.mk.injEq]
  constructor <;> omega
set_option maxRecDepth 100000 in
set_option maxHeartbeats 1000000 in
theorem iHas (x : Nat) (hx : x < 18446744073709551616) (u v : Int) (w : World) :
    Calls Tryd.prog 71 #[.int .u64 (x : Int), .agg #[.int .i64 u, .int .i64 v]] w (Bol (hasS x u v) w) := by
  have HV := Lib.hid (fun W => isValid u v W)
  have K0 := At2.new w u v
  have B0 := below_alloc1 w (.cells #[.int .i64 u, .int .i64 v] 33)
  have HK := Lib.hid K0
  have HB := Lib.hid B0
  have HY := Lib.hid (fun h : Ok u v => ok_place h)
  obtain ⟨r, hr⟩ : ∃ r, r = hasS x u v := ⟨_, rfl⟩
  rw [← hr]
  have HH := Lib.hid (show r = (okB u v && bt x (v * 8 + u).toNat) from hr)
  clear hr
  clear K0 B0
  go_enter Tryd.func71, Tryd.ntmps71
  go_wp2_with fail
  generalize w.alloc (.cells #[.int .i64 u, .int .i64 v] 33) = W0 at HK HB ⊢
  have K0 := HK.out
  refine (HV.out _).mono ?_
  rintro e w1 ⟨rfl, hb1⟩
  have K1 := K0.on hb1
  have hbw := HB.out.trans (hb1.mono HB.out.size)
  have c0 := K1.c0
  have c1 := K1.c1
  clear HK HB HV K0 hb1
  by_cases hok : Ok u v
  · obtain ⟨k, hk, e, hk2⟩ := HY.out hok
    have HR := Lib.hid (show r = (true && bt x k) by rw [HH.out, hk2, okB_of hok])
    rw [okB_of hok]
    have R2 : RdC (w1.alloc (.cells #[.int .i64 u, .int .i64 v] 33)) w1.heap.size 0 [(u, v)] := by
      have N := At2.new w1 u v
      refine ⟨fun _ => N.lt, fun j p hp => ?_⟩
      cases j with
      | zero => simp at hp; subst hp; exact ⟨by simp, by simp⟩
      | succ j => simp at hp
    have HS := Lib.hid (fun c => iSetOf _ (some ⟨w1.heap.size, 0, none⟩) 1 c w1.heap.size 0 [(u, v)] [k] (by rw [e]; rfl) (fun j hj' => by rw [List.mem_singleton.1 hj']; exact hk) rfl (by omega) (fun _ => rfl) R2)
    have hs1 : setN [k] = 2 ^ k := by unfold setN; simp
    rw [hs1] at HS
    have hand := u64_and_nat x (2 ^ k) hx (one_lt hk)
    have hbw2 := hbw.alloc hbw.size (.cells #[.int .i64 u, .int .i64 v] 33)
    have hne : (((x &&& 2 ^ k : Nat) : Int) != (0 : Int)) = bt x k := by
      rw [Bool.eq_iff_iff, ← meets (x := x) (k := k)]
      simp
    obtain ⟨t, ht⟩ : ∃ t : Int, t = ((2 ^ k : Nat) : Int) := ⟨_, rfl⟩
    have HS := Lib.hid (fun c => by have := HS.out c; unfold SetE at this; rw [← ht] at this; exact this)
    rw [← ht] at hand
    generalize x &&& 2 ^ k = y at hand hne
    generalize bt x k = q at hne HR
    clear HH HY hk e hk2 R2 hs1 ht hok K1
    have hz : (w1.alloc (.cells #[.int .i64 u, .int .i64 v] 33)).heap.size = w1.heap.size + 1 := by simp
    have hsz := hbw.size
    go_wp2_with fail
    refine (HS.out _).mono ?_
    rintro e w2 ⟨rfl, hb2⟩
    have hbw3 := hbw2.trans (hb2.mono (by omega))
    clear HS hb2 c0 c1
    go_wp2
    go_ret
    exact mkBol (by rw [HR.out]; rfl) hbw3
  · have HR := Lib.hid (show r = false by rw [HH.out, okB_not hok]; rfl)
    rw [okB_not hok]
    clear HH HY
    go_wp2
    go_ret
    exact mkBol (by rw [HR.out]) hbw
end Go.Proofs.YtgkgdgchkhdgjaaDoor.Sets
