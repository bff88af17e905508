/- FndP, FndS, JoiS in one text. -/
import Derived.Test.YtgkgdgchkhdgjaaDoorMgWay
import Derived.Test.YtgkgdgchkhdgjaaDoorRegHas
import Derived.Test.YtgkgdgchkhdgjaaDoorNbM
import Derived.Deep.LoopGhost
import Derived.Deep.RegionHeld3
import Derived.Test.YtgkgdgchkhdgjaaDoorRegCl

/- The model's search of a way: its rows in memory, and what a call of it keeps. -/
namespace Go.Proofs.YtgkgdgchkhdgjaaDoor.Mat
set_option linter.unusedVariables false
set_option linter.unusedSimpArgs false
set_option maxRecDepth 100000
open Go.RowKit Go.Proofs.YtgkgdgchkhdgjaaDoor.Base Go.Proofs.YtgkgdgchkhdgjaaDoor.Pure Go.Proofs.YtgkgdgchkhdgjaaDoor.Cell Go.Proofs.YtgkgdgchkhdgjaaDoor.Dom Go.Proofs.YtgkgdgchkhdgjaaDoor.Sets Go.Proofs.YtgkgdgchkhdgjaaDoor.Kun Go.Proofs.YtgkgdgchkhdgjaaDoor.KuL Go.Proofs.YtgkgdgchkhdgjaaDoor.Til Go.Joins
open Go.Proofs.YtgkgdgchkhdgjaaDoor.Cnt (adj gR)
open Go.Proofs.YtgkgdgchkhdgjaaDoor.Reg hiding Yes add_none RC rc_start

/-- what is joined is in range. -/
def Bd (J : Nat → Int) : Prop := ∀ i, -1 ≤ J i ∧ J i < 64
theorem Bd.put {J : Nat → Int} (h : Bd J) {i v : Nat} (hv : v < 64) : Bd (put J i (v : Int)) := fun k => by
  by_cases e : k = i
  · rw [e, put_at]; omega
  · rw [put_ne e]; exact h k
theorem put_mono {Z : Nat → Bool} {i : Nat} : ∀ k, Z k = true → put Z i true k = true := fun k hk => by
  by_cases e : k = i
  · subst e; exact put_at _ _ _
  · rw [put_ne e]; exact hk
theorem tryF_keep {g : Nat → Bool} {rec : (Nat → Int) → (Nat → Bool) → Nat → Ans} {v : Nat} (hv : v < 64) (hrec : ∀ J Z u, Bd J → u < 64 → Bd (rec J Z u).2.1 ∧ ∀ i, Z i = true → (rec J Z u).2.2 i = true) :
    ∀ (l : List Nat) (J : Nat → Int) (Z : Nat → Bool), Bd J → Bd (tryF g rec v l J Z).2.1 ∧ ∀ i, Z i = true → (tryF g rec v l J Z).2.2 i = true
  | [], J, Z, hJ => ⟨hJ, fun i h => h⟩
  | i :: r, J, Z, hJ => by
    unfold tryF
    by_cases h1 : g i = false ∨ Z i = true
    · rw [if_pos h1]; exact tryF_keep hv hrec r J Z hJ
    · rw [if_neg h1]
      by_cases h2 : J i < 0
      · rw [if_pos h2]; exact ⟨hJ.put hv, put_mono⟩
      · rw [if_neg h2]
        have hR := hrec J (put Z i true) (J i).toNat hJ (by have := hJ i; omega)
        cases hres : rec J (put Z i true) (J i).toNat with
        | mk b rest =>
          obtain ⟨J2, Z2⟩ := rest
          rw [hres] at hR
          obtain ⟨a, c⟩ := hR
          cases b with
          | true => exact ⟨Bd.put a hv, fun k hk => c k (put_mono k hk)⟩
          | false =>
            obtain ⟨d, e⟩ := tryF_keep hv hrec r J2 Z2 a
            exact ⟨d, fun k hk => e k (c k (put_mono k hk))⟩
theorem findF_keep {g : Nat → Bool} : ∀ (f : Nat) (J : Nat → Int) (Z : Nat → Bool) (v : Nat), Bd J → v < 64 → Bd (findF g f J Z v).2.1 ∧ ∀ i, Z i = true → (findF g f J Z v).2.2 i = true
  | 0, J, Z, v, hJ, _ => ⟨hJ, fun i h => h⟩
  | f + 1, J, Z, v, hJ, hv => tryF_keep hv (fun J Z u a b => findF_keep f J Z u a b) (nbN v) J Z hJ
theorem try_skip {g : Nat → Bool} {rec : (Nat → Int) → (Nat → Bool) → Nat → Ans} {v i : Nat} {r : List Nat} {J : Nat → Int} {Z : Nat → Bool} (h : g i = false ∨ Z i = true) : tryF g rec v (i :: r) J Z = tryF g rec v r J Z := by
  rw [tryF, if_pos h]
theorem try_free {g : Nat → Bool} {rec : (Nat → Int) → (Nat → Bool) → Nat → Ans} {v i : Nat} {r : List Nat} {J : Nat → Int} {Z : Nat → Bool} (hg : g i = true) (hz : Z i = false) (hj : J i < 0) : tryF g rec v (i :: r) J Z = (true, put J i (v : Int), put Z i true) := by
  rw [tryF, if_neg (by rw [hg, hz]; simp), if_pos hj]
theorem try_yes {g : Nat → Bool} {rec : (Nat → Int) → (Nat → Bool) → Nat → Ans} {v i : Nat} {r : List Nat} {J : Nat → Int} {Z : Nat → Bool} (hg : g i = true) (hz : Z i = false) (hj : ¬ J i < 0) (hr : (rec J (put Z i true) (J i).toNat).1 = true) :
    tryF g rec v (i :: r) J Z = (true, put (rec J (put Z i true) (J i).toNat).2.1 i (v : Int), (rec J (put Z i true) (J i).toNat).2.2) := by
  rw [tryF, if_neg (by rw [hg, hz]; simp), if_neg hj]
  generalize rec J (put Z i true) (J i).toNat = q at hr
  obtain ⟨b, J2, Z2⟩ := q
  simp only at hr
  subst hr; rfl
theorem try_no {g : Nat → Bool} {rec : (Nat → Int) → (Nat → Bool) → Nat → Ans} {v i : Nat} {r : List Nat} {J : Nat → Int} {Z : Nat → Bool} (hg : g i = true) (hz : Z i = false) (hj : ¬ J i < 0) (hr : (rec J (put Z i true) (J i).toNat).1 = false) :
    tryF g rec v (i :: r) J Z = tryF g rec v r (rec J (put Z i true) (J i).toNat).2.1 (rec J (put Z i true) (J i).toNat).2.2 := by
  rw [tryF, if_neg (by rw [hg, hz]; simp), if_neg hj]
  generalize rec J (put Z i true) (J i).toNat = q at hr
  obtain ⟨b, J2, Z2⟩ := q
  simp only at hr
  subst hr; rfl

/-! Rows in memory. -/
/-- sixty-four values in a block. -/
def RowV (T : TypeId) (W : World) (b : Nat) (f : Nat → Value) : Prop := ∃ cs, W.heap[b]? = some (.cells cs T (0, 0)) ∧ 64 ≤ cs.size ∧ ∀ i, i < 64 → cs[i]? = some (f i)
section
variable {T : TypeId} {W W' : World} {b : Nat} {f : Nat → Value}
theorem RowV.lt (h : RowV T W b f) : b < W.heap.size := by
  obtain ⟨cs, h, _⟩ := h
  exact (Array.getElem?_eq_some_iff.1 h).1
theorem RowV.cell (h : RowV T W b f) {i : Nat} (hi : i < 64) : W.cell? ⟨b, i, none⟩ = some (f i) := by
  obtain ⟨cs, h, _, h2⟩ := h
  rw [cell_of_block h i]; exact h2 i hi
theorem RowV.frozen (h : RowV T W b f) (i : Nat) : W.frozen? ⟨b, i, none⟩ = false := by
  obtain ⟨cs, h, _⟩ := h
  exact unfrozen_of_block h i
theorem RowV.same (h : RowV T W b f) (e : W'.heap[b]? = W.heap[b]?) : RowV T W' b f := by
  obtain ⟨cs, h, r⟩ := h
  exact ⟨cs, e.trans h, r⟩
theorem RowV.on (h : RowV T W b f) (hb : Below W.heap.size W W') : RowV T W' b f := h.same (hb.block b h.lt)
theorem RowV.set (h : RowV T W b f) {i : Nat} (hi : i < 64) (x : Value) : RowV T (W.setCell ⟨b, i, none⟩ x) b (put f i x) := by
  obtain ⟨cs, h, hs, h2⟩ := h
  refine ⟨_, block_setCell h _, by simpa using hs, fun u hu => ?_⟩
  rw [Array.getElem?_setIfInBounds]
  by_cases e : i = u
  · subst e; rw [if_pos rfl, if_pos (by omega), put_at]
  · rw [if_neg e, h2 u hu, put_ne (fun q => e q.symm)]
theorem RowV.ne {T' : TypeId} {b' : Nat} {f' : Nat → Value} (h : RowV T W b f) (h' : RowV T' W b' f') (hT : T ≠ T') : b ≠ b' := by
  rintro rfl
  obtain ⟨cs, h, _⟩ := h
  obtain ⟨cs', h', _⟩ := h'
  rw [h] at h'
  injection h' with h'
  injection h' with _ h'
  exact hT h'
end
def vJ (J : Nat → Int) : Nat → Value := fun i => .int .i64 (J i)
def vZ (Z : Nat → Bool) : Nat → Value := fun i => .bool (Z i)
theorem vJ_put (J : Nat → Int) (i : Nat) (x : Int) : vJ (put J i x) = put (vJ J) i (.int .i64 x) := by
  funext k; unfold vJ put; split <;> rfl
theorem vZ_put (Z : Nat → Bool) (i : Nat) (x : Bool) : vZ (put Z i x) = put (vZ Z) i (.bool x) := by
  funext k; unfold vZ put; split <;> rfl
/-- all is kept but two blocks. -/
structure FX (jb sb : Nat) (W W' : World) : Prop where
  os : W'.os = W.os
  tape : W'.tape = W.tape
  output : W'.output = W.output
  size : W.heap.size ≤ W'.heap.size
  block : ∀ k, k < W.heap.size → k ≠ jb → k ≠ sb → W'.heap[k]? = W.heap[k]?
section
variable {jb sb : Nat} {W W' W'' : World}
theorem FX.refl (jb sb : Nat) (W : World) : FX jb sb W W := ⟨rfl, rfl, rfl, Nat.le_refl _, fun _ _ _ _ => rfl⟩
theorem FX.trans (h : FX jb sb W W') (k : FX jb sb W' W'') : FX jb sb W W'' := ⟨k.os.trans h.os, k.tape.trans h.tape, k.output.trans h.output, Nat.le_trans h.size k.size, fun i hi a b => (k.block i (Nat.lt_of_lt_of_le hi h.size) a b).trans (h.block i hi a b)⟩
theorem FX.of (h : Below W.heap.size W W') : FX jb sb W W' := ⟨h.os, h.tape, h.output, h.size, fun k hk _ _ => h.block k hk⟩
theorem FX.drew (h : FX jb sb W W') : FX jb sb W W'.drew := ⟨h.os, h.tape, h.output, h.size, h.block⟩
theorem FX.below (h : FX jb sb W W') {B : Nat} (hB : B ≤ W.heap.size) (h1 : B ≤ jb) (h2 : B ≤ sb) : Below B W W' := ⟨h.os, h.tape, h.output, h.size, fun k hk => h.block k (by omega) (by omega) (by omega)⟩
theorem FX.setJ (jb sb : Nat) (W : World) (i : Nat) (x : Value) : FX jb sb W (W.setCell ⟨jb, i, none⟩ x) := ⟨rfl, rfl, rfl, by simp [World.setCell], fun k _ a _ => Below.heap_setCell _ _ _ _ a⟩
theorem FX.setS (jb sb : Nat) (W : World) (i : Nat) (x : Value) : FX jb sb W (W.setCell ⟨sb, i, none⟩ x) := ⟨rfl, rfl, rfl, by simp [World.setCell], fun k _ _ a => Below.heap_setCell _ _ _ _ a⟩
end
/-- what a search leaves. -/
def FndPost (jb sb : Nat) (r : Ans) (w : World) (e : Ending) (w' : World) : Prop :=
  e = .returned (.bool r.1) ∧ FX jb sb w w' ∧ RowV 3 w' jb (vJ r.2.1) ∧ RowV 4 w' sb (vZ r.2.2)
/-- the variables of a search. -/
structure SF (w : World) (rv : Value) (vx vy : Int) (jb sb b1 off1 : Nat) (C : List (Int × Int)) (J : Nat → Int) (Z : Nat → Bool) (W : World) : Prop where
  fx : FX jb sb w W
  box : Rg W w.heap.size rv
  bb : At2 W (w.heap.size + 1) vx vy
  rj : RowV 3 W jb (vJ J)
  rz : RowV 4 W sb (vZ Z)
  rd : RdC W b1 off1 C
section
variable {w W W' : World} {rv : Value} {vx vy : Int} {jb sb b1 off1 : Nat} {C : List (Int × Int)} {J J' : Nat → Int} {Z Z' : Nat → Bool}
theorem SF.on (h : SF w rv vx vy jb sb b1 off1 C J Z W) (hb : Below W.heap.size W W') : SF w rv vx vy jb sb b1 off1 C J Z W' := ⟨h.fx.trans (FX.of hb), h.box.on hb, h.bb.on hb, h.rj.on hb, h.rz.on hb, h.rd.on hb⟩
theorem SF.drew (h : SF w rv vx vy jb sb b1 off1 C J Z W) : SF w rv vx vy jb sb b1 off1 C J Z W.drew := ⟨h.fx.drew, h.box, h.bb, h.rj, h.rz, h.rd⟩
theorem SF.step (hj : jb < w.heap.size) (hs : sb < w.heap.size) (hb1 : 0 < C.length → w.heap.size ≤ b1) (h : SF w rv vx vy jb sb b1 off1 C J Z W) (hx : FX jb sb W W') (r1 : RowV 3 W' jb (vJ J')) (r2 : RowV 4 W' sb (vZ Z')) : SF w rv vx vy jb sb b1 off1 C J' Z' W' :=
  ⟨h.fx.trans hx, (hx.block _ h.box.lt (by omega) (by omega)).trans h.box, (hx.block _ h.bb.lt (by omega) (by omega)).trans h.bb, r1, r2, h.rd.same hx.size (fun h0 => hx.block _ (h.rd.1 h0) (by have := hb1 h0; omega) (by have := hb1 h0; omega))⟩
end
theorem int_bool : (3 : TypeId) ≠ 4 := by decide
end Go.Proofs.YtgkgdgchkhdgjaaDoor.Mat

/- The model's search of a way. -/
namespace Go.Proofs.YtgkgdgchkhdgjaaDoor.Mat
set_option linter.unusedVariables false
set_option linter.unusedSimpArgs false
set_option maxRecDepth 100000
open Go.RowKit Go.Proofs.YtgkgdgchkhdgjaaDoor.Base Go.Proofs.YtgkgdgchkhdgjaaDoor.Pure Go.Proofs.YtgkgdgchkhdgjaaDoor.Cell Go.Proofs.YtgkgdgchkhdgjaaDoor.Dom Go.Proofs.YtgkgdgchkhdgjaaDoor.Sets Go.Proofs.YtgkgdgchkhdgjaaDoor.Kun Go.Proofs.YtgkgdgchkhdgjaaDoor.KuL Go.Proofs.YtgkgdgchkhdgjaaDoor.Til Go.Joins
open Go.Proofs.YtgkgdgchkhdgjaaDoor.Cnt (adj gR gR_in)
open Go.Proofs.YtgkgdgchkhdgjaaDoor.Nb (NbPost)
open Go.Proofs.YtgkgdgchkhdgjaaDoor.Reg hiding Yes add_none RC rc_start

theorem has_place_bit {xs : List Int} {k : Nat} (hk : k < 64) : bitB (rowD xs (k / 8)) (k % 8) = gR xs k := (gR_in hk).symm
set_option maxHeartbeats 4000000 in
theorem sFind (A : Option Addr) (n cap B : Nat) (xs : List Int) (hx : xs.length = n) (ho : okR xs) (jb sb cj cz : Nat) (hBj : B ≤ jb) (hBs : B ≤ sb) :
    ∀ (f : Nat) (w : World) (J : Nat → Int) (Z : Nat → Bool) (v : Nat), RowB w B A xs → B ≤ w.heap.size → RowV 3 w jb (vJ J) → RowV 4 w sb (vZ Z) → Bd J → v < 64 → uns (gR xs) Z < f →
      Calls Tryd.prog 68 #[.agg #[.slice A n cap], .slice (some ⟨jb, 0, none⟩) 64 cj, .slice (some ⟨sb, 0, none⟩) 64 cz, .agg #[.int .i64 (plc v).1, .int .i64 (plc v).2]] w (FndPost jb sb (findF (gR xs) f J Z v) w) := by
  intro f
  induction f with
  | zero => intro w J Z v _ _ _ _ _ _ h; omega
  | succ f ih =>
    intro w J Z v h hB rj rz hJ hv hu
    have HH := Lib.hid (fun W (hb : Below B w W) k (hk : k < 64) => show Calls Tryd.prog 37 #[.agg #[.slice A n cap], .agg #[.int .i64 (plc k).1, .int .i64 (plc k).2]] W (Bol (gR xs k) W) from has_place_bit (xs := xs) hk ▸ sHas W A n cap B xs hx ho (h.below hb (Nat.le_refl _)) (Nat.le_trans hB hb.size) (k % 8) (k / 8) (by omega) (by omega))
    have HRec := Lib.hid (fun W (hb : Below B w W) J Z v (r1 : RowV 3 W jb (vJ J)) (r2 : RowV 4 W sb (vZ Z)) (hJ : Bd J) (hv : v < 64) (hu : uns (gR xs) Z < f) => ih W J Z v (h.below hb (Nat.le_refl _)) (Nat.le_trans hB hb.size) r1 r2 hJ hv hu)
    have HN := Lib.hid (fun W => nb_is hv ▸ Nb.specNb (plc v).1 (plc v).2 W)
    have HIx := Lib.hid (fun k (hk : k < 64) W => index_plc hk ▸ CellF.sCellIndex (plc k).1 (plc k).2 W)
    have HIv := Lib.hid (fun W => index_plc hv ▸ CellF.sCellIndex (plc v).1 (plc v).2 W)
    have HC := Lib.hid (fun (k : Nat) (hk : k < 64) W => show Calls Tryd.prog 36 #[.int .i64 (k : Int)] W (CelB (plc k).1 (plc k).2 true W) from by
      have := sCellAt (k : Int) W
      rwa [(atX_plc hk).1, (atX_plc hk).2, inB_of (by omega)] at this)
    have hjl := rj.lt
    have hsl := rz.lt
    have hjs := rj.ne rz int_bool
    have HB := Lib.hid hB
    have HF : findF (gR xs) (f + 1) J Z v = tryF (gR xs) (findF (gR xs) f) v (nbN v) J Z := rfl
    have hN4 : (nbN v).length ≤ 4 := nb_len ⟨v, hv⟩
    have H64 := Lib.hid (fun k (hk : k < (nbN v).length) => (mem_nbN.1 (List.getElem_mem hk)).1)
    have HKe := Lib.hid (fun J Z v (hJ : Bd J) (hv : v < 64) => findF_keep (g := gR xs) f J Z v hJ hv)
    have hz : ((w.alloc (.cells #[.slice A n cap] 26)).alloc (.cells #[.int .i64 (plc v).1, .int .i64 (plc v).2] 33)).heap.size = w.heap.size + 2 := by simp
    have bl := (below_alloc1 w (.cells #[.slice A n cap] 26)).alloc (by simp) (.cells #[.int .i64 (plc v).1, .int .i64 (plc v).2] 33)
    have S0 : SF w (.slice A n cap) (plc v).1 (plc v).2 jb sb 0 0 [] J Z ((w.alloc (.cells #[.slice A n cap] 26)).alloc (.cells #[.int .i64 (plc v).1, .int .i64 (plc v).2] 33)) :=
      ⟨FX.of bl, (Below.heap_alloc _ _ _ (by simp)).trans (Rg.new w _), by have := At2.new (w.alloc (.cells #[.slice A n cap] 26)) (plc v).1 (plc v).2; rwa [World.size_alloc] at this, rj.on bl, rz.on bl, ⟨fun h => absurd h (by simp), fun j p h => (by simp at h)⟩⟩
    obtain ⟨R, hR⟩ : ∃ R, R = findF (gR xs) (f + 1) J Z v := ⟨_, rfl⟩
    rw [← hR]
    have HR := Lib.hid (hR.trans HF)
    have HJu := Lib.hid (And.intro hJ hu)
    have HV := Lib.hid hv
    clear ih h hB rj rz hJ hv hu HF hR bl
    generalize gR xs = g at HH HRec HR HJu HKe
    obtain ⟨vx, hvx⟩ : ∃ q, q = (plc v).1 := ⟨_, rfl⟩
    obtain ⟨vy, hvy⟩ : ∃ q, q = (plc v).2 := ⟨_, rfl⟩
    rw [← hvx, ← hvy] at HN HIv S0 hz ⊢
    clear hvx hvy
    go_enter Tryd.func68, Tryd.ntmps68
    go_upto_region 1 with fail
    generalize (w.alloc (.cells #[.slice A n cap] 26)).alloc (.cells #[.int .i64 vx, .int .i64 vy] 33) = W0 at S0 hz ⊢
    have v0 := S0.bb.c0
    have v1 := S0.bb.c1
    go_wp2_with fail
    refine (HN.out _).mono ?_
    rintro e w1 ⟨A1, cap1, rfl, hown1, hb1⟩
    obtain ⟨b1, off1, hA1, hR1⟩ := Nb.rowC_own hown1
    have hlow : 0 < ((nbN v).map plc).length → w.heap.size ≤ b1 := fun h0 => by
      obtain ⟨e, _⟩ := hA1 h0
      rcases hown1.2 with ⟨_, h⟩ | ⟨g', c', cur, e2, h1, _⟩
      · omega
      · rw [e] at e2; injection e2 with e2; injection e2 with e2; injection e2 with e2; omega
    have S1' := S0.on hb1
    have S1 : SF w (.slice A n cap) vx vy jb sb b1 off1 ((nbN v).map plc) J Z w1 := ⟨S1'.fx, S1'.box, S1'.bb, S1'.rj, S1'.rz, ⟨fun h0 => (hA1 h0).2, hR1⟩⟩
    have HA1 := Lib.hid (fun h0 => (hA1 h0).1)
    rw [List.length_map] at HA1 ⊢
    have HS1 := Lib.hid S1
    have HLow := Lib.hid hlow
    clear S0 S1' S1 v0 v1 hown1 hb1 hA1 hR1 hlow HN hz
    generalize nbN v = N at *
    obtain ⟨L, hL⟩ : ∃ L, L = N.length := ⟨_, rfl⟩
    rw [← hL] at hN4 HA1 ⊢
    have HLN := Lib.hid hL
    clear hL
    go_wp2_with fail
    go_loopg [10] L (fun gg kk wr => ∃ (k : Nat) (Jk : Nat → Int) (Zk : Nat → Bool), k + gg = L ∧ kk = .int .i64 k ∧ SF w (.slice A n cap) vx vy jb sb b1 off1 (N.map plc) Jk Zk wr ∧ Hid (Bd Jk ∧ uns g Zk < f + 1 ∧ R = tryF g (findF g f) v (N.drop k) Jk Zk))
    case atStart => exact ⟨0, J, Z, by omega, rfl, HS1.out, Lib.hid ⟨HJu.out.1, HJu.out.2, HR.out⟩⟩
    case round =>
      clear HS1 HJu HR
      obtain ⟨k, Jk, Zk, hkL, rfl, hS, HQ⟩ := hrel
      by_cases hlt : k < L
      · have hkN : k < N.length := by rw [← HLN.out]; exact hlt
        obtain rfl := HA1.out (by omega)
        obtain ⟨c0, c1⟩ := hS.rd.2 k (plc N[k]) (by rw [List.getElem?_map, List.getElem?_eq_getElem hkN]; rfl)
        have hi64 := H64.out k hkN
        have HQ := Lib.hid (show Bd Jk ∧ uns g Zk < f + 1 ∧ R = tryF g (findF g f) v (N[k] :: N.drop (k + 1)) Jk Zk from by
          obtain ⟨a, b, c⟩ := HQ.out
          exact ⟨a, b, by rw [c, List.drop_eq_getElem_cons hkN]⟩)
        generalize N[k] = i at c0 c1 hi64 HQ
        have HIi := Lib.hid (fun W => HIx.out i hi64 W)
        have HHi := Lib.hid (fun W hb => HH.out W hb i hi64)
        obtain ⟨ix, hix⟩ : ∃ q, q = (plc i).1 := ⟨_, rfl⟩
        obtain ⟨iy, hiy⟩ : ∃ q, q = (plc i).2 := ⟨_, rfl⟩
        rw [← hix] at c0 HIi HHi
        rw [← hiy] at c1 HIi HHi
        clear hix hiy
        go_wp2_with fail
        refine (HIi.out _).mono ?_
        rintro e w2 ⟨rfl, hb2⟩
        have S2 := hS.on hb2
        have hb1' := hS.rd.1 (by rw [List.length_map, ← HLN.out]; omega)
        have c0 := (hb2.cell (p := ⟨b1, off1 + k * 2, none⟩) hb1').trans c0
        have c1 := (hb2.cell (p := ⟨b1, off1 + k * 2 + 1, none⟩) hb1').trans c1
        clear hS hb2 hb1' HIi
        go_wp2_with fail
        have S3 := S2.drew
        have HSv := Lib.hid S3
        have HBl := Lib.hid (fun W (hx : FX jb sb w W) => hx.below HB.out hBj hBs)
        have HRd := Lib.hid (show w2.drew.cell? ⟨b1, off1 + k * 2, none⟩ = some (.int .i64 ix) ∧ w2.drew.cell? ⟨b1, off1 + k * 2 + 1, none⟩ = some (.int .i64 iy) from ⟨c0, c1⟩)
        have hlb : b1 < w2.drew.heap.size := World.block_lt_of_cell? _ _ HRd.out.1
        obtain ⟨z, hz⟩ : ∃ z, z = Zk i := ⟨_, rfl⟩
        have HZ := Lib.hid hz
        have e0 : w2.drew.cell? ⟨sb, i, none⟩ = some (.bool z) := by rw [hz]; exact S3.rz.cell hi64
        have r0 := S3.box.c0
        clear hz S2 c0 c1
        have hiI : (i : Int) < 64 := by omega
        refine wp_region_noPanic ?_
        refine wp_region_held_drew (S := (fun w' => w'.cell? ⟨w.heap.size, 0, none⟩ = some (.slice A n cap) ∧ w'.cell? ⟨b1, off1 + k * 2, none⟩ = some (.int .i64 ix) ∧ w'.cell? ⟨b1, off1 + k * 2 + 1, none⟩ = some (.int .i64 iy) ∧ w'.cell? ⟨sb, i, none⟩ = some (.bool z))) (by kernel_rfl) ⟨r0, HRd.out.1, HRd.out.2, e0⟩ (fun hHeld => ?_)
        generalize w2.drew = WD at S3 HSv HRd hlb e0 r0 hHeld ⊢
        have HHeld := Lib.hid (show ∀ w', Below WD.heap.size WD w' → w'.cell? ⟨w.heap.size, 0, none⟩ = some (.slice A n cap) ∧ w'.cell? ⟨b1, off1 + k * 2, none⟩ = some (.int .i64 ix) ∧ w'.cell? ⟨b1, off1 + k * 2 + 1, none⟩ = some (.int .i64 iy) ∧ w'.cell? ⟨sb, i, none⟩ = some (.bool z) from fun W hb => ⟨(hb.cell (p := ⟨w.heap.size, 0, none⟩) HSv.out.box.lt).trans r0, (hb.cell (p := ⟨b1, off1 + k * 2, none⟩) hlb).trans HRd.out.1, (hb.cell (p := ⟨b1, off1 + k * 2 + 1, none⟩) hlb).trans HRd.out.2, (hb.cell (p := ⟨sb, i, none⟩) HSv.out.rz.lt).trans e0⟩)
        clear S3 HRd hlb e0 r0
        cases hgi : g i with
        | false =>
          have HR2 := Lib.hid (show Bd Jk ∧ uns g Zk < f + 1 ∧ R = tryF g (findF g f) v (N.drop (k + 1)) Jk Zk from ⟨HQ.out.1, HQ.out.2.1, by rw [HQ.out.2.2, try_skip (.inl hgi)]⟩)
          rw [hgi] at HHi
          clear hgi HQ
          refine wpAnyH_take (i := 0) (v := ?_) rfl (by kernel_rfl) (by kernel_rfl) (by kernel_rfl) (fun _ _ _ h => h) (Or.inl ⟨by rfl, ?_⟩) (by assumption) ?_
          rotate_left
          · (intro w' hS; (try dsimp only at hS); go_simp; try with_reducible rfl)
          try simp only [Act.put, List.getElem_toArray, List.getElem_cons_succ, List.getElem_cons_zero, List.setIfInBounds_toArray, List.set_cons_zero, List.set_cons_succ]
          refine wpAnyH_take (i := 1) (v := ?_) rfl (by kernel_rfl) (by kernel_rfl) (by kernel_rfl) (fun _ _ _ h => h) (Or.inl ⟨by rfl, ?_⟩) (by assumption) ?_
          rotate_left
          · (intro w' hS; (try dsimp only at hS); go_simp; try with_reducible rfl)
          try simp only [Act.put, List.getElem_toArray, List.getElem_cons_succ, List.getElem_cons_zero, List.setIfInBounds_toArray, List.set_cons_zero, List.set_cons_succ]
          refine wpAnyH_take (i := 2) (v := ?_) rfl (by kernel_rfl) (by kernel_rfl) (by kernel_rfl) (fun _ _ _ h => h) (Or.inl ⟨by rfl, ?_⟩) (by assumption) ?_
          rotate_left
          · (intro w' hS; (try dsimp only at hS); go_simp; try with_reducible rfl)
          try simp only [Act.put, List.getElem_toArray, List.getElem_cons_succ, List.getElem_cons_zero, List.setIfInBounds_toArray, List.set_cons_zero, List.set_cons_succ]
          refine wpAnyH_take (i := 3) (v := ?_) rfl (by kernel_rfl) (by kernel_rfl) (by kernel_rfl) (fun _ _ _ h => h) (Or.inl ⟨by rfl, ?_⟩) (by assumption) ?_
          rotate_left
          · (intro w' hS; (try dsimp only at hS); go_simp; try with_reducible rfl)
          try simp only [Act.put, List.getElem_toArray, List.getElem_cons_succ, List.getElem_cons_zero, List.setIfInBounds_toArray, List.set_cons_zero, List.set_cons_succ]
          refine wpAnyH_take (i := 4) (v := ?_) rfl (by kernel_rfl) (by kernel_rfl) (by kernel_rfl) (fun _ _ _ h => h) (Or.inl ⟨by rfl, ?_⟩) (by assumption) ?_
          rotate_left
          · (intro w' hS; (try dsimp only at hS); go_simp; try with_reducible rfl)
          try simp only [Act.put, List.getElem_toArray, List.getElem_cons_succ, List.getElem_cons_zero, List.setIfInBounds_toArray, List.set_cons_zero, List.set_cons_succ]
          refine wpAnyH_ready (rs := [5]) (by kernel_rfl) (by simp) ?_
          refine AllReadyH.cons rfl (fun K hK => ?_) AllReadyH.nil
          go_simp
          refine (HHi.out _ (HSv.out.fx.below HB.out hBj hBs)).mono ?_
          rintro e wx ⟨rfl, hbx⟩
          have HSn := Lib.hid (HSv.out.on hbx)
          go_wp2_with fail
          refine hK.out _ _ (HHeld.out _ hbx) (fun hHeld => ?_)
          clear hK K
          try simp only [Act.put, List.getElem_toArray, List.getElem_cons_succ, List.getElem_cons_zero, List.setIfInBounds_toArray, List.set_cons_zero, List.set_cons_succ]
          refine wpAnyH_take (i := 6) (v := ?_) rfl (by kernel_rfl) (by kernel_rfl) (by kernel_rfl) (fun _ _ _ h => h) (Or.inl ⟨by rfl, ?_⟩) (by assumption) ?_
          rotate_left
          · (intro w' hS; (try dsimp only at hS); go_simp; try with_reducible rfl)
          try simp only [Act.put, List.getElem_toArray, List.getElem_cons_succ, List.getElem_cons_zero, List.setIfInBounds_toArray, List.set_cons_zero, List.set_cons_succ]
          refine wpAnyH_take (i := 7) (v := ?_) rfl (by kernel_rfl) (by kernel_rfl) (by kernel_rfl) (fun _ _ _ h => h) (Or.inl ⟨by rfl, ?_⟩) (by assumption) ?_
          rotate_left
          · (intro w' hS; (try dsimp only at hS); go_simp; try with_reducible rfl)
          try simp only [Act.put, List.getElem_toArray, List.getElem_cons_succ, List.getElem_cons_zero, List.setIfInBounds_toArray, List.set_cons_zero, List.set_cons_succ]
          refine wpAnyH_take (i := 8) (v := undef) rfl (by kernel_rfl) (by kernel_rfl) (by kernel_rfl) (fun _ _ _ h => h) (Or.inr ⟨by rfl, rfl⟩) (by assumption) ?_
          try simp only [Act.put, List.getElem_toArray, List.getElem_cons_succ, List.getElem_cons_zero, List.setIfInBounds_toArray, List.set_cons_zero, List.set_cons_succ]
          refine wpAnyH_take (i := 9) (v := undef) rfl (by kernel_rfl) (by kernel_rfl) (by kernel_rfl) (fun _ _ _ h => h) (Or.inr ⟨by rfl, rfl⟩) (by assumption) ?_
          try simp only [Act.put, List.getElem_toArray, List.getElem_cons_succ, List.getElem_cons_zero, List.setIfInBounds_toArray, List.set_cons_zero, List.set_cons_succ]
          refine wpAnyH_take (i := 10) (v := undef) rfl (by kernel_rfl) (by kernel_rfl) (by kernel_rfl) (fun _ _ _ h => h) (Or.inr ⟨by rfl, rfl⟩) (by assumption) ?_
          try simp only [Act.put, List.getElem_toArray, List.getElem_cons_succ, List.getElem_cons_zero, List.setIfInBounds_toArray, List.set_cons_zero, List.set_cons_succ]
          refine wpAnyH_take (i := 11) (v := undef) rfl (by kernel_rfl) (by kernel_rfl) (by kernel_rfl) (fun _ _ _ h => h) (Or.inr ⟨by rfl, rfl⟩) (by assumption) ?_
          try simp only [Act.put, List.getElem_toArray, List.getElem_cons_succ, List.getElem_cons_zero, List.setIfInBounds_toArray, List.set_cons_zero, List.set_cons_succ]
          refine wpAnyH_take (i := 12) (v := ?_) rfl (by kernel_rfl) (by kernel_rfl) (by kernel_rfl) (fun _ _ _ h => h) (Or.inl ⟨by rfl, ?_⟩) (by assumption) ?_
          rotate_left
          · (intro w' hS; (try dsimp only at hS); go_simp; try with_reducible rfl)
          try simp only [Act.put, List.getElem_toArray, List.getElem_cons_succ, List.getElem_cons_zero, List.setIfInBounds_toArray, List.set_cons_zero, List.set_cons_succ]
          refine wpAnyH_done (by kernel_rfl) ?_ _
          refine NoPanic.normal ?_
          clear hHeld
          go_wp2
          go_roundg (gk - 1)
          case measure => omega
          case rel => exact ⟨k + 1, Jk, Zk, by omega, by go_num, HSn.out, HR2⟩
        | true =>
          rw [hgi] at HHi
          refine wpAnyH_take (i := 0) (v := ?_) rfl (by kernel_rfl) (by kernel_rfl) (by kernel_rfl) (fun _ _ _ h => h) (Or.inl ⟨by rfl, ?_⟩) (by assumption) ?_
          rotate_left
          · (intro w' hS; (try dsimp only at hS); go_simp; try with_reducible rfl)
          try simp only [Act.put, List.getElem_toArray, List.getElem_cons_succ, List.getElem_cons_zero, List.setIfInBounds_toArray, List.set_cons_zero, List.set_cons_succ]
          refine wpAnyH_take (i := 1) (v := ?_) rfl (by kernel_rfl) (by kernel_rfl) (by kernel_rfl) (fun _ _ _ h => h) (Or.inl ⟨by rfl, ?_⟩) (by assumption) ?_
          rotate_left
          · (intro w' hS; (try dsimp only at hS); go_simp; try with_reducible rfl)
          try simp only [Act.put, List.getElem_toArray, List.getElem_cons_succ, List.getElem_cons_zero, List.setIfInBounds_toArray, List.set_cons_zero, List.set_cons_succ]
          refine wpAnyH_take (i := 2) (v := ?_) rfl (by kernel_rfl) (by kernel_rfl) (by kernel_rfl) (fun _ _ _ h => h) (Or.inl ⟨by rfl, ?_⟩) (by assumption) ?_
          rotate_left
          · (intro w' hS; (try dsimp only at hS); go_simp; try with_reducible rfl)
          try simp only [Act.put, List.getElem_toArray, List.getElem_cons_succ, List.getElem_cons_zero, List.setIfInBounds_toArray, List.set_cons_zero, List.set_cons_succ]
          refine wpAnyH_take (i := 3) (v := ?_) rfl (by kernel_rfl) (by kernel_rfl) (by kernel_rfl) (fun _ _ _ h => h) (Or.inl ⟨by rfl, ?_⟩) (by assumption) ?_
          rotate_left
          · (intro w' hS; (try dsimp only at hS); go_simp; try with_reducible rfl)
          try simp only [Act.put, List.getElem_toArray, List.getElem_cons_succ, List.getElem_cons_zero, List.setIfInBounds_toArray, List.set_cons_zero, List.set_cons_succ]
          refine wpAnyH_take (i := 4) (v := ?_) rfl (by kernel_rfl) (by kernel_rfl) (by kernel_rfl) (fun _ _ _ h => h) (Or.inl ⟨by rfl, ?_⟩) (by assumption) ?_
          rotate_left
          · (intro w' hS; (try dsimp only at hS); go_simp; try with_reducible rfl)
          try simp only [Act.put, List.getElem_toArray, List.getElem_cons_succ, List.getElem_cons_zero, List.setIfInBounds_toArray, List.set_cons_zero, List.set_cons_succ]
          refine wpAnyH_ready (rs := [5]) (by kernel_rfl) (by simp) ?_
          refine AllReadyH.cons rfl (fun K hK => ?_) AllReadyH.nil
          go_simp
          refine (HHi.out _ (HSv.out.fx.below HB.out hBj hBs)).mono ?_
          rintro e wx ⟨rfl, hbx⟩
          have HSn := Lib.hid (HSv.out.on hbx)
          go_wp2_with fail
          refine hK.out _ _ (HHeld.out _ hbx) (fun hHeld => ?_)
          clear hK K
          try simp only [Act.put, List.getElem_toArray, List.getElem_cons_succ, List.getElem_cons_zero, List.setIfInBounds_toArray, List.set_cons_zero, List.set_cons_succ]
          refine wpAnyH_take (i := 6) (v := ?_) rfl (by kernel_rfl) (by kernel_rfl) (by kernel_rfl) (fun _ _ _ h => h) (Or.inl ⟨by rfl, ?_⟩) (by assumption) ?_
          rotate_left
          · (intro w' hS; (try dsimp only at hS); go_simp; try with_reducible rfl)
          try simp only [Act.put, List.getElem_toArray, List.getElem_cons_succ, List.getElem_cons_zero, List.setIfInBounds_toArray, List.set_cons_zero, List.set_cons_succ]
          refine wpAnyH_take (i := 7) (v := ?_) rfl (by kernel_rfl) (by kernel_rfl) (by kernel_rfl) (fun _ _ _ h => h) (Or.inl ⟨by rfl, ?_⟩) (by assumption) ?_
          rotate_left
          · (intro w' hS; (try dsimp only at hS); go_simp; try with_reducible rfl)
          try simp only [Act.put, List.getElem_toArray, List.getElem_cons_succ, List.getElem_cons_zero, List.setIfInBounds_toArray, List.set_cons_zero, List.set_cons_succ]
          refine wpAnyH_take (i := 8) (v := ?_) rfl (by kernel_rfl) (by kernel_rfl) (by kernel_rfl) (fun _ _ _ h => h) (Or.inl ⟨by rfl, ?_⟩) (by assumption) ?_
          rotate_left
          · (intro w' hS; (try dsimp only at hS); go_simp; try with_reducible rfl)
          try simp only [Act.put, List.getElem_toArray, List.getElem_cons_succ, List.getElem_cons_zero, List.setIfInBounds_toArray, List.set_cons_zero, List.set_cons_succ]
          refine wpAnyH_take (i := 9) (v := ?_) rfl (by kernel_rfl) (by kernel_rfl) (by kernel_rfl) (fun _ _ _ h => h) (Or.inl ⟨by rfl, ?_⟩) (by assumption) ?_
          rotate_left
          · (intro w' hS; (try dsimp only at hS); go_simp; try with_reducible rfl)
          try simp only [Act.put, List.getElem_toArray, List.getElem_cons_succ, List.getElem_cons_zero, List.setIfInBounds_toArray, List.set_cons_zero, List.set_cons_succ]
          refine wpAnyH_take (i := 10) (v := ?_) rfl (by kernel_rfl) (by kernel_rfl) (by kernel_rfl) (fun _ _ _ h => h) (Or.inl ⟨by rfl, ?_⟩) (by assumption) ?_
          rotate_left
          · (intro w' hS; (try dsimp only at hS); go_simp; try with_reducible rfl)
          try simp only [Act.put, List.getElem_toArray, List.getElem_cons_succ, List.getElem_cons_zero, List.setIfInBounds_toArray, List.set_cons_zero, List.set_cons_succ]
          refine wpAnyH_take (i := 11) (v := ?_) rfl (by kernel_rfl) (by kernel_rfl) (by kernel_rfl) (fun _ _ _ h => h) (Or.inl ⟨by rfl, ?_⟩) (by assumption) ?_
          rotate_left
          · (intro w' hS; (try dsimp only at hS); go_simp; try with_reducible rfl)
          try simp only [Act.put, List.getElem_toArray, List.getElem_cons_succ, List.getElem_cons_zero, List.setIfInBounds_toArray, List.set_cons_zero, List.set_cons_succ]
          refine wpAnyH_take (i := 12) (v := ?_) rfl (by kernel_rfl) (by kernel_rfl) (by kernel_rfl) (fun _ _ _ h => h) (Or.inl ⟨by rfl, ?_⟩) (by assumption) ?_
          rotate_left
          · (intro w' hS; (try dsimp only at hS); go_simp; try with_reducible rfl)
          try simp only [Act.put, List.getElem_toArray, List.getElem_cons_succ, List.getElem_cons_zero, List.setIfInBounds_toArray, List.set_cons_zero, List.set_cons_succ]
          refine wpAnyH_done (by kernel_rfl) ?_ _
          refine NoPanic.normal ?_
          clear hHeld
          cases z with
          | true =>
            have HR2 := Lib.hid (show Bd Jk ∧ uns g Zk < f + 1 ∧ R = tryF g (findF g f) v (N.drop (k + 1)) Jk Zk from ⟨HQ.out.1, HQ.out.2.1, by rw [HQ.out.2.2, try_skip (.inr HZ.out.symm)]⟩)
            clear hgi HQ
            go_wp2
            go_roundg (gk - 1)
            case measure => omega
            case rel => exact ⟨k + 1, Jk, Zk, by omega, by go_num, HSn.out, HR2⟩
          | false =>
            have S4 := HSn.out
            have s0 := S4.rz.cell hi64
            have sf := S4.rz.frozen i
            have hzi : Zk i = false := HZ.out.symm
            have S5 : SF w (.slice A n cap) vx vy jb sb b1 off1 (N.map plc) Jk (put Zk i true) (wx.setCell ⟨sb, i, none⟩ (.bool true)) :=
              S4.step hjl hsl HLow.out (FX.setS jb sb _ _ _) (S4.rj.same (Below.heap_setCell _ _ _ _ hjs)) (by rw [vZ_put]; exact S4.rz.set hi64 _)
            have HM := Lib.hid (show uns g (put Zk i true) < f from by have := uns_put hi64 hgi hzi; have := HQ.out.2.1; omega)
            have HQ2 := Lib.hid (And.intro hgi hzi)
            clear S4 HSn hgi hzi hx hbx hHeld
            go_upto_region 8 with fail
            generalize wx.setCell ⟨sb, i, none⟩ (.bool true) = W5 at S5 ⊢
            clear s0 sf
            have j0 : W5.cell? ⟨jb, i, none⟩ = some (.int .i64 (Jk i)) := S5.rj.cell hi64
            have jf := S5.rj.frozen i
            obtain ⟨q, hq⟩ : ∃ q, q = Jk i := ⟨_, rfl⟩
            rw [← hq] at j0
            have HJq := Lib.hid hq
            clear hq
            by_cases hneg : q < 0
            · have HR2 := Lib.hid (show R = (true, put Jk i (v : Int), put Zk i true) by rw [HQ.out.2.2, try_free HQ2.out.1 HQ2.out.2 (by rw [← HJq.out]; exact hneg)])
              have d0 := S5.bb.c0
              have d1 := S5.bb.c1
              have hd : decide (q < 0) = true := decide_eq_true hneg
              clear HQ HM HQ2 HJq hneg
              go_wp2_with fail
              refine (HIv.out _).mono ?_
              rintro e w6 ⟨rfl, hb6⟩
              have S6 := S5.on hb6
              have j1 := S6.rj.cell hi64
              have jf1 := S6.rj.frozen i
              have S7 : SF w (.slice A n cap) vx vy jb sb b1 off1 (N.map plc) (put Jk i (v : Int)) (put Zk i true) (w6.setCell ⟨jb, i, none⟩ (.int .i64 (v : Int))) :=
                S6.step hjl hsl HLow.out (FX.setJ jb sb _ _ _) (by rw [vJ_put]; exact S6.rj.set hi64 _) (S6.rz.same (Below.heap_setCell _ _ _ _ (fun e => hjs e.symm)))
              have HS7 := Lib.hid S7
              clear S5 S6 S7 hb6 d0 d1 j0 jf hd
              go_wp2
              go_ret
              rw [HR2.out]
              exact ⟨rfl, HS7.out.fx, HS7.out.rj, HS7.out.rz⟩
            · obtain ⟨u, hu⟩ : ∃ u : Nat, q = (u : Int) := ⟨q.toNat, by omega⟩
              subst hu
              have hu64 : u < 64 := by have := HQ.out.1 i; have := HJq.out; omega
              have HCu := Lib.hid (fun W => HC.out u hu64 W)
              have HIH := Lib.hid (fun W hb r1 r2 => HRec.out W hb Jk (put Zk i true) u r1 r2 HQ.out.1 hu64 HM.out)
              have HKu := Lib.hid (HKe.out Jk (put Zk i true) u HQ.out.1 hu64)
              have HY := Lib.hid (fun h => HQ.out.2.2.trans (try_yes (g := g) (rec := findF g f) (v := v) (r := N.drop (k + 1)) HQ2.out.1 HQ2.out.2 (by rw [← HJq.out]; omega) h))
              have HNo := Lib.hid (fun h => HQ.out.2.2.trans (try_no (g := g) (rec := findF g f) (v := v) (r := N.drop (k + 1)) HQ2.out.1 HQ2.out.2 (by rw [← HJq.out]; omega) h))
              rw [show (Jk i).toNat = u by rw [← HJq.out, Int.toNat_natCast]] at HY HNo
              have HU2 := Lib.hid HQ.out.2.1
              clear HQ HM HQ2 HJq hneg HIx HHi HHeld HC HRec HKe HZ
              generalize findF g f Jk (put Zk i true) u = r at HIH HKu HY HNo
              go_wp2_with fail
              refine (HCu.out _).mono ?_
              rintro e w6 ⟨rfl, hb6⟩
              have S6 := S5.on hb6
              clear S5 hb6 j0 jf HCu
              obtain ⟨ux, hux⟩ : ∃ q, q = (plc u).1 := ⟨_, rfl⟩
              obtain ⟨uy, huy⟩ : ∃ q, q = (plc u).2 := ⟨_, rfl⟩
              rw [← hux, ← huy] at HIH ⊢
              clear hux huy hu64
              have S7 := S6.on (below_alloc1 w6 (.cells #[.int .i64 ux, .int .i64 uy] 33))
              have U7 := At2.new w6 ux uy
              go_upto_region 11 with fail
              generalize w6.alloc (.cells #[.int .i64 ux, .int .i64 uy] 33) = W7 at S7 U7 ⊢
              generalize w6.heap.size = zu at U7 ⊢
              clear S6
              have r0 := S7.box.c0
              have e0 := U7.c0
              have e1 := U7.c1
              have HS7 := Lib.hid S7
              have HIc := Lib.hid (HIH.out W7 (S7.fx.below HB.out hBj hBs) S7.rj S7.rz)
              clear S7 U7 HIH
              go_wp2_with fail
              refine HIc.out.mono ?_
              rintro e w8 ⟨rfl, hf8, hj8, hz8⟩
              have S8 := HS7.out.step hjl hsl HLow.out hf8 hj8 hz8
              clear HS7 hf8 hj8 hz8 HIc r0 e0 e1
              obtain ⟨rb, J2, Z2⟩ := r
              simp only at S8 HKu HY HNo ⊢
              cases rb with
              | true =>
                have HR2 := Lib.hid (HY.out rfl)
                have d0 := S8.bb.c0
                have d1 := S8.bb.c1
                clear HY HNo HKu
                go_wp2_with fail
                refine (HIv.out _).mono ?_
                rintro e w9 ⟨rfl, hb9⟩
                have S9 := S8.on hb9
                have j1 := S9.rj.cell hi64
                have jf1 := S9.rj.frozen i
                have S10 : SF w (.slice A n cap) vx vy jb sb b1 off1 (N.map plc) (put J2 i (v : Int)) Z2 (w9.setCell ⟨jb, i, none⟩ (.int .i64 (v : Int))) :=
                  S9.step hjl hsl HLow.out (FX.setJ jb sb _ _ _) (by rw [vJ_put]; exact S9.rj.set hi64 _) (S9.rz.same (Below.heap_setCell _ _ _ _ (fun e => hjs e.symm)))
                have HS10 := Lib.hid S10
                clear S8 S9 S10 hb9 d0 d1
                go_wp2
                go_ret
                rw [HR2.out]
                exact ⟨rfl, HS10.out.fx, HS10.out.rj, HS10.out.rz⟩
              | false =>
                have HR2 := Lib.hid (HNo.out rfl)
                have HS8 := Lib.hid S8
                have HUn := Lib.hid (Nat.lt_of_le_of_lt (uns_le (g := g) (Z := Zk) (Z' := Z2) (fun k hk => HKu.out.2 k (put_mono k hk))) HU2.out)
                clear HY HNo S8
                go_wp2
                go_roundg (gk - 1)
                case measure => omega
                case rel => exact ⟨k + 1, J2, Z2, by omega, by go_num, HS8.out, Lib.hid ⟨HKu.out.1, HUn.out, HR2.out⟩⟩
      · obtain rfl : k = L := by omega
        have HR2 := Lib.hid (show R = (false, Jk, Zk) by rw [HQ.out.2.2, List.drop_of_length_le (by rw [← HLN.out]; exact Nat.le_refl _)]; rfl)
        have HS := Lib.hid hS
        clear HQ hS
        go_wp2
        go_ret
        rw [HR2.out]
        exact ⟨rfl, HS.out.fx, HS.out.rj, HS.out.rz⟩
end Go.Proofs.YtgkgdgchkhdgjaaDoor.Mat

/- The model's joined places: from each black cell in turn a way is looked for. -/
namespace Go.Proofs.YtgkgdgchkhdgjaaDoor.Mat
set_option linter.unusedVariables false
set_option linter.unusedSimpArgs false
set_option maxRecDepth 100000
open Go.RowKit Go.Proofs.YtgkgdgchkhdgjaaDoor.Base Go.Proofs.YtgkgdgchkhdgjaaDoor.Pure Go.Proofs.YtgkgdgchkhdgjaaDoor.Cell Go.Proofs.YtgkgdgchkhdgjaaDoor.Cels Go.Proofs.YtgkgdgchkhdgjaaDoor.Dom Go.Proofs.YtgkgdgchkhdgjaaDoor.Sets Go.Proofs.YtgkgdgchkhdgjaaDoor.Kun Go.Proofs.YtgkgdgchkhdgjaaDoor.KuL Go.Proofs.YtgkgdgchkhdgjaaDoor.Til Go.Joins
open Go.Proofs.YtgkgdgchkhdgjaaDoor.Cnt (adj gR gR_in)
open Go.Proofs.YtgkgdgchkhdgjaaDoor.Reg hiding Yes add_none RC rc_start

theorem jT_bd (xs : List Int) (t : Nat) : Bd (jT xs t) := fun i => by
  have hm := (jT_mc xs t).mt
  refine ⟨hm.low i, ?_⟩
  by_cases h : 0 ≤ jT xs t i
  · have := (hm.ok i h).2.2.2.1; omega
  · omega
theorem intInfo9 : (Tryd.prog.info? 3).map (fun i => (i.zero, i.size, i.bytes)) = some (some (.int .i64 0), 1, 8) := by kernel_rfl
theorem boolInfo9 : (Tryd.prog.info? 4).map (fun i => (i.zero, i.size, i.bytes)) = some (some (.bool false), 1, 1) := by kernel_rfl
/-- sixty-four marks made. -/
def mk64 (w : World) : World := w.alloc (.cells (Array.replicate 64 (.bool false)) 4)
theorem make64 (w : World) : (Instr.makeSlice 76 (.int .i64 64) (.int .i64 64)).run Tryd.prog w = .ok (.slice (some ⟨w.heap.size, 0, none⟩) 64 64) (mk64 w) := by
  obtain ⟨i0, hi, hz0, hz1, hz2⟩ := info_parts boolInfo9
  have := run_makeSlice (P := Tryd.prog) w 76 4 i0 (.bool false) Tryd.underlying76 hi hz0 .i64 .i64 64 64 (by omega) (by omega) (by rw [hz1]; decide) (by rw [hz2]; omega) (by omega)
  rw [hz1, show madeCells (Value.bool false).cells (Int.toNat 64 * 1) = Array.replicate 64 (.bool false) from by kernel_rfl] at this
  exact this
theorem mk64_row (w : World) : RowV 4 (mk64 w) w.heap.size (vZ fun _ => false) := ⟨_, heap_alloc_new w _, by simp, fun i hi => by unfold vZ; simp [hi]⟩
theorem mk64_below (w : World) : Below w.heap.size w (mk64 w) := below_alloc1 w _
theorem mk64_size (w : World) : (mk64 w).heap.size = w.heap.size + 1 := by unfold mk64; simp
/-- the variables. -/
structure SJ (w : World) (rv : Value) (jb b1 off1 : Nat) (C : List (Int × Int)) (J : Nat → Int) (W : World) : Prop where
  bel : Below w.heap.size w W
  box : Rg W w.heap.size rv
  rj : RowV 3 W jb (vJ J)
  rd : RdC W b1 off1 C
section
variable {w W W' : World} {rv : Value} {jb b1 off1 : Nat} {C : List (Int × Int)} {J J' : Nat → Int}
theorem SJ.on (h : SJ w rv jb b1 off1 C J W) (hb : Below W.heap.size W W') : SJ w rv jb b1 off1 C J W' := ⟨h.bel.trans (hb.mono h.bel.size), h.box.on hb, h.rj.on hb, h.rd.on hb⟩
theorem SJ.drew (h : SJ w rv jb b1 off1 C J W) : SJ w rv jb b1 off1 C J W.drew := ⟨h.bel.drew, h.box, h.rj, h.rd⟩
theorem SJ.step {sb : Nat} (hj : w.heap.size < jb) (hb1 : 0 < C.length → jb < b1) (h : SJ w rv jb b1 off1 C J W) (hs : w.heap.size < sb) (hs1 : 0 < C.length → b1 < sb) (hx : FX jb sb W W') (r : RowV 3 W' jb (vJ J')) : SJ w rv jb b1 off1 C J' W' :=
  ⟨h.bel.trans (hx.below h.bel.size (by omega) (by omega)), (hx.block _ h.box.lt (by omega) (by omega)).trans h.box, r, h.rd.same hx.size (fun h0 => hx.block _ (h.rd.1 h0) (by have := hb1 h0; omega) (by have := hs1 h0; omega))⟩
end
/-- what is returned. -/
def JPost (J : Nat → Int) (w : World) (e : Ending) (w' : World) : Prop := ∃ jb cj, e = .returned (.slice (some ⟨jb, 0, none⟩) 64 cj) ∧ RowV 3 w' jb (vJ J) ∧ Below w.heap.size w w'
set_option maxHeartbeats 4000000 in
theorem sJoined (w : World) (A : Option Addr) (n cap B : Nat) (xs : List Int) (hx : xs.length = n) (hn : (n : Int) ≤ 9223372036854775807) (ho : okR xs) (h : RowB w B A xs) (hB : B ≤ w.heap.size) :
    Calls Tryd.prog 49 #[.agg #[.slice A n cap]] w (JPost (jT xs (idl xs).length) w) := by
  obtain ⟨i0, hi, hz0, hz1, hz2⟩ := info_parts intInfo9
  have HC := Lib.hid (fun W (hb : Below w.heap.size w W) => sCellsOf W A n cap B xs hx hn (h.below hb hB) (by have := hb.size; omega))
  have HF := Lib.hid (fun jb sb cj cz W (hb : Below w.heap.size w W) (hj : B ≤ jb) (hs : B ≤ sb) J v (r1 : RowV 3 W jb (vJ J)) (r2 : RowV 4 W sb (vZ (fun _ => false))) (hJ : Bd J) (hv : v < 64) (hu : uns (gR xs) (fun _ => false) < 66) => sFind A n cap B xs hx ho jb sb cj cz hj hs 66 W J (fun _ => false) v (h.below hb hB) (by have := hb.size; omega) r1 r2 hJ hv hu)
  have HLn := Lib.hid (cellsR_length xs)
  rw [idl_cells, List.length_map] at HLn
  rw [idl_cells] at HC
  have HBw := Lib.hid hB
  have R0 := Rg.new w (.slice A n cap)
  have B0 := below_alloc1 w (.cells #[.slice A n cap] 26)
  clear hx hn h hB
  go_enter Tryd.func49, Tryd.ntmps49
  go_wp2_with fail
  have B1 := B0.alloc (by simp) (.cells #[] 3)
  have R1 : Rg ((w.alloc (.cells #[.slice A n cap] 26)).alloc (.cells #[] 3)) w.heap.size (.slice A n cap) := (Below.heap_alloc _ _ _ (by simp)).trans R0
  have O1 : ((w.alloc (.cells #[.slice A n cap] 26)).alloc (.cells #[] 3)).ownsRow (w.heap.size + 1) 3 1 (.slice (some ⟨w.heap.size + 1, 0, none⟩) 0 0) 0 [] :=
    ⟨rfl, .inr ⟨w.heap.size + 1, 0, #[], rfl, Nat.le_refl _, by have := heap_alloc_new (w.alloc (.cells #[.slice A n cap] 26)) (.cells #[] 3); rwa [World.size_alloc] at this, Nat.le_refl _, by unfold maxLen; omega, rfl, rfl⟩⟩
  have HS1 := Lib.hid (And.intro B1 (And.intro R1 O1))
  clear B0 R0 B1 R1 O1
  go_loopg [4, 5] 64 (fun gg v i wr => ∃ k : Nat, k + gg = 64 ∧ i = .int .i64 k ∧ wr.ownsRow (w.heap.size + 1) 3 1 v k (List.replicate k (.int .i64 (-1))) ∧ Rg wr w.heap.size (.slice A n cap) ∧ Below w.heap.size w wr)
  case atStart => exact ⟨0, by omega, rfl, HS1.out.2.2, HS1.out.2.1, HS1.out.1⟩
  case round =>
    clear HS1
    obtain ⟨k, hk, rfl, hO, hR, hb⟩ := hrel
    by_cases hlt : k < 64
    · have HO := Lib.hid hO
      have HR := Lib.hid hR
      have HB := Lib.hid hb
      have hz1' : w.heap.size + 1 ≤ wr.heap.size := hR.lt
      have hlow := fun g hg => (hO.lt g hg).1
      clear hO hR hb
      go_wp2_with (first
        | (at_builtin
           go_must (refine wpList_append_own _ rfl _ _ 24 rfl (w.heap.size + 1) 3 i0 (.int .i64 0) 1 8 Tryd.underlying24 hi hz0 hz1 hz2 rfl (by decide) _ k (List.replicate k (.int .i64 (-1))) rfl (HO.out.alloc _) ⟨wr.heap.size, 0, none⟩ 1 1 [.int .i64 (-1)] rfl rfl (World.news_of_block (cs := #[.int .i64 (-1)]) (t := 3) (fr := (0, 0)) (heap_alloc_new wr _)) (by simp [Value.oneCell']) (by unfold maxLen; omega) (by omega) (by simp; omega) ?_)
           intro v3 w3 hown3 hgrow3 _))
      have hb3 := (HB.out.alloc HB.out.size (.cells #[.int .i64 (-1)] 3)).grown hgrow3 (by have := HB.out.size; simp; omega) (fun g hg => by have := hlow g hg; omega)
      have hR3 : Rg w3 w.heap.size (.slice A n cap) := (hgrow3.block _ (by simp; omega) (fun e => by have := hlow _ e.symm; omega)).trans ((Below.heap_alloc _ _ _ (by omega)).trans HR.out)
      go_roundg (gk - 1)
      case measure => omega
      case rel => exact ⟨k + 1, by omega, by go_num, by rw [List.replicate_succ']; exact hown3, hR3, hb3⟩
    · obtain rfl : k = 64 := by omega
      rcases hO.2 with ⟨_, h⟩ | ⟨jb, cj, cs, rfl, hlow, hbk, hle, hc, hsz, htk⟩
      · exact absurd h (by decide)
      have J0 : RowV 3 wr jb (vJ (jT xs 0)) := ⟨cs, hbk, by omega, fun i hi => by
        have h1 : (cs.toList.take (64 * 1))[i]? = some (.int .i64 (-1)) := by rw [htk, List.getElem?_replicate, if_pos hi]
        rw [List.getElem?_take, if_pos (by omega)] at h1
        rw [← Array.getElem?_toList]; exact h1⟩
      have HS := Lib.hid (And.intro J0 (And.intro hR hb))
      have r0 := hR.c0
      have HCw := Lib.hid (HC.out wr hb)
      clear hO hR hb J0 hbk hle hc hsz htk HC
      go_wp2_with fail
      refine HCw.out.mono ?_
      rintro e w1 ⟨A1, cap1, rfl, hown1, hb1⟩
      obtain ⟨b1, off1, hA1, hR1⟩ := rowC_own hown1
      have hjw := HS.out.1.lt
      have hlow1 : 0 < ((idl xs).map plc).length → jb < b1 := fun h0 => by
        obtain ⟨e, _⟩ := hA1 h0
        rcases hown1.2 with ⟨_, h⟩ | ⟨g', c', cur, e2, h1, _⟩
        · omega
        · rw [e] at e2; injection e2 with e2; injection e2 with e2; injection e2 with e2; omega
      have S1 : SJ w (.slice A n cap) jb b1 off1 ((idl xs).map plc) (jT xs 0) w1 := ⟨HS.out.2.2.trans (hb1.mono HS.out.2.2.size), HS.out.2.1.on hb1, HS.out.1.on hb1, ⟨fun h0 => (hA1 h0).2, hR1⟩⟩
      have HA1 := Lib.hid (fun h0 => (hA1 h0).1)
      rw [List.length_map] at HA1 ⊢
      have HS1 := Lib.hid S1
      have HLow := Lib.hid hlow1
      have hjw2 : w.heap.size < jb := hlow
      clear r0 hown1 hb1 hR1 hA1 HS HCw S1 hlow1 hlow hjw
      obtain ⟨N, hN⟩ : ∃ N, N = (idl xs).length := ⟨_, rfl⟩
      rw [← hN] at HLn HA1 ⊢
      have HN := Lib.hid hN
      clear hN
      go_wp2_with fail
      go_loopg [7] N (fun gg i wr => ∃ t : Nat, t + gg = N ∧ i = .int .i64 t ∧ SJ w (.slice A n cap) jb b1 off1 ((idl xs).map plc) (jT xs t) wr)
      case atStart => exact ⟨0, by omega, rfl, HS1.out⟩
      case round =>
        clear HS1
        obtain ⟨t, ht, rfl, hS⟩ := hrel
        have hN64 := HLn.out
        by_cases hlt : t < N
        · have hti : t < (idl xs).length := by rw [← HN.out]; exact hlt
          obtain rfl := HA1.out (by omega)
          obtain ⟨c0, c1⟩ := hS.rd.2 t (plc (idl xs)[t]) (by rw [List.getElem?_map, List.getElem?_eq_getElem hti]; rfl)
          obtain ⟨v64, vg, _⟩ := idl_mem (List.getElem_mem hti)
          have HBl := Lib.hid (fun W => CellF.sIsBlack (plc (idl xs)[t]).1 (plc (idl xs)[t]).2 W)
          rw [show blackB (plc (idl xs)[t]).1 (plc (idl xs)[t]).2 = col (idl xs)[t] from col_black v64] at HBl
          have HNo := Lib.hid (fun h => jT_no (xs := xs) hti h)
          have HYe := Lib.hid (fun h => jT_yes (xs := xs) hti h)
          have HFv := Lib.hid (fun sb cz W hb hs r1 r2 => HF.out jb sb cj cz W hb (by have := HBw.out; omega) hs (jT xs t) ((idl xs)[t]'hti) r1 r2 (jT_bd xs t) v64 (by
            have : uns (gR xs) (fun _ => false) ≤ 64 := by unfold uns; exact Nat.le_trans (List.length_filter_le _ _) (by rw [List.length_range]; exact Nat.le_refl _)
            omega))
          generalize (idl xs)[t] = v at c0 c1 HBl HNo HYe HFv
          obtain ⟨vx, hvx⟩ : ∃ q, q = (plc v).1 := ⟨_, rfl⟩
          obtain ⟨vy, hvy⟩ : ∃ q, q = (plc v).2 := ⟨_, rfl⟩
          rw [← hvx] at c0 HBl HFv
          rw [← hvy] at c1 HBl HFv
          clear hvx hvy v64 vg
          have hb1' := hS.rd.1 (by rw [List.length_map]; omega)
          have HLo := HLow.out (by rw [List.length_map]; omega)
          go_wp2_with fail
          refine (HBl.out _).mono ?_
          rintro e w2 ⟨rfl, hb2⟩
          have S2 := hS.on hb2
          have c0 := (hb2.cell (p := ⟨b1, off1 + t * 2, none⟩) hb1').trans c0
          have c1 := (hb2.cell (p := ⟨b1, off1 + t * 2 + 1, none⟩) hb1').trans c1
          have hb1'' : b1 < w2.heap.size := Nat.lt_of_lt_of_le hb1' hb2.size
          clear hS hb2 HBl hb1'
          cases hc : col v with
          | false =>
            have S3 : SJ w (.slice A n cap) jb b1 off1 ((idl xs).map plc) (jT xs (t + 1)) w2 := by rw [HNo.out hc]; exact S2
            have HS3 := Lib.hid S3
            clear hc HNo HYe HFv S2 S3
            go_wp2
            go_roundg (gk - 1)
            case measure => omega
            case rel => exact ⟨t + 1, by omega, by go_num, HS3.out⟩
          | true =>
            go_wp2_with fail
            have r0 := S2.drew.box.c0
            have S3 := S2.drew
            have c0 : w2.drew.cell? ⟨b1, off1 + t * 2, none⟩ = some (.int .i64 vx) := c0
            have c1 : w2.drew.cell? ⟨b1, off1 + t * 2 + 1, none⟩ = some (.int .i64 vy) := c1
            have hbd : b1 < w2.drew.heap.size := hb1''
            refine wp_region_noPanic ?_
            refine wp_region_held_drew (S := (fun w' => w'.cell? ⟨w.heap.size, 0, none⟩ = some (.slice A n cap) ∧ w'.cell? ⟨b1, off1 + t * 2, none⟩ = some (.int .i64 vx) ∧ w'.cell? ⟨b1, off1 + t * 2 + 1, none⟩ = some (.int .i64 vy))) (by kernel_rfl) ⟨r0, c0, c1⟩ (fun hHeld => ?_)
            generalize w2.drew = WD at S3 c0 c1 hbd r0 hHeld ⊢
            have HHeld := Lib.hid (show ∀ w', Below WD.heap.size WD w' → w'.cell? ⟨w.heap.size, 0, none⟩ = some (.slice A n cap) ∧ w'.cell? ⟨b1, off1 + t * 2, none⟩ = some (.int .i64 vx) ∧ w'.cell? ⟨b1, off1 + t * 2 + 1, none⟩ = some (.int .i64 vy) from fun W hb => ⟨(hb.cell (p := ⟨w.heap.size, 0, none⟩) S3.box.lt).trans r0, (hb.cell (p := ⟨b1, off1 + t * 2, none⟩) hbd).trans c0, (hb.cell (p := ⟨b1, off1 + t * 2 + 1, none⟩) hbd).trans c1⟩)
            have HS3 := Lib.hid S3
            clear S2 S3 c0 c1 r0
            refine wpAnyH_take (i := 0) (v := ?_) rfl (by kernel_rfl) (by kernel_rfl) (by kernel_rfl) (fun _ _ _ h => h) (Or.inl ⟨by rfl, ?_⟩) (by assumption) ?_
            rotate_left
            · (intro w' hS; (try dsimp only at hS); go_simp; try with_reducible rfl)
            try simp only [Act.put, List.getElem_toArray, List.getElem_cons_succ, List.getElem_cons_zero, List.setIfInBounds_toArray, List.set_cons_zero, List.set_cons_succ]
            refine wpAnyH_take (i := 1) (v := ?_) rfl (by kernel_rfl) (by kernel_rfl) (by kernel_rfl) (fun _ _ _ h => h) (Or.inl ⟨by rfl, ?_⟩) (by assumption) ?_
            rotate_left
            · (intro w' hS; (try dsimp only at hS); go_simp; try with_reducible rfl)
            try simp only [Act.put, List.getElem_toArray, List.getElem_cons_succ, List.getElem_cons_zero, List.setIfInBounds_toArray, List.set_cons_zero, List.set_cons_succ]
            refine wpAnyH_take (i := 2) (v := ?_) rfl (by kernel_rfl) (by kernel_rfl) (by kernel_rfl) (fun _ _ _ h => h) (Or.inl ⟨by rfl, ?_⟩) (by assumption) ?_
            rotate_left
            · (intro w' hS; (try dsimp only at hS); go_simp; try with_reducible rfl)
            try simp only [Act.put, List.getElem_toArray, List.getElem_cons_succ, List.getElem_cons_zero, List.setIfInBounds_toArray, List.set_cons_zero, List.set_cons_succ]
            refine wpAnyH_take (i := 4) (v := ?_) rfl (by kernel_rfl) (by kernel_rfl) (by kernel_rfl) (fun _ _ _ h => h) (Or.inl ⟨by rfl, ?_⟩) (by assumption) ?_
            rotate_left
            · (intro w' hS; (try dsimp only at hS); go_simp; try with_reducible rfl)
            try simp only [Act.put, List.getElem_toArray, List.getElem_cons_succ, List.getElem_cons_zero, List.setIfInBounds_toArray, List.set_cons_zero, List.set_cons_succ]
            refine wpAnyH_take (i := 5) (v := ?_) rfl (by kernel_rfl) (by kernel_rfl) (by kernel_rfl) (fun _ _ _ h => h) (Or.inl ⟨by rfl, ?_⟩) (by assumption) ?_
            rotate_left
            · (intro w' hS; (try dsimp only at hS); go_simp; try with_reducible rfl)
            try simp only [Act.put, List.getElem_toArray, List.getElem_cons_succ, List.getElem_cons_zero, List.setIfInBounds_toArray, List.set_cons_zero, List.set_cons_succ]
            refine wpAnyH_take (i := 6) (v := ?_) rfl (by kernel_rfl) (by kernel_rfl) (by kernel_rfl) (fun _ _ _ h => h) (Or.inl ⟨by rfl, ?_⟩) (by assumption) ?_
            rotate_left
            · (intro w' hS; (try dsimp only at hS); go_simp; try with_reducible rfl)
            try simp only [Act.put, List.getElem_toArray, List.getElem_cons_succ, List.getElem_cons_zero, List.setIfInBounds_toArray, List.set_cons_zero, List.set_cons_succ]
            refine wpAnyH_take (i := 7) (v := ?_) rfl (by kernel_rfl) (by kernel_rfl) (by kernel_rfl) (fun _ _ _ h => h) (Or.inl ⟨by rfl, ?_⟩) (by assumption) ?_
            rotate_left
            · (intro w' hS; (try dsimp only at hS); go_simp; try with_reducible rfl)
            try simp only [Act.put, List.getElem_toArray, List.getElem_cons_succ, List.getElem_cons_zero, List.setIfInBounds_toArray, List.set_cons_zero, List.set_cons_succ]
            refine wpAnyH_ready (rs := [3]) (by kernel_rfl) (by simp) ?_
            refine AllReadyH.cons rfl (fun K hK => ?_) AllReadyH.nil
            have hmk := make64 WD
            go_simp
            have S5 := HS3.out.on (mk64_below WD)
            have hz5 := mk64_size WD
            have hsb : b1 < WD.heap.size ∧ w.heap.size < WD.heap.size := ⟨hbd, HS3.out.box.lt⟩
            have HFc := Lib.hid (HFv.out WD.heap.size 64 (mk64 WD) S5.bel (by have := HBw.out; omega) S5.rj (mk64_row WD))
            refine hK.out _ _ (HHeld.out _ (mk64_below WD)) (fun hHeld => ?_)
            clear hK K hmk
            generalize mk64 WD = W5 at S5 HFc hHeld hz5 ⊢
            generalize WD.heap.size = sb at HFc hsb hz5 ⊢
            try simp only [Act.put, List.getElem_toArray, List.getElem_cons_succ, List.getElem_cons_zero, List.setIfInBounds_toArray, List.set_cons_zero, List.set_cons_succ]
            refine wpAnyH_ready (rs := [8]) (by kernel_rfl) (by simp) ?_
            refine AllReadyH.cons rfl (fun K hK => ?_) AllReadyH.nil
            go_simp
            refine HFc.out.mono ?_
            rintro e w6 ⟨rfl, hf6, hj6, _⟩
            have S6 := S5.step (by omega) (fun _ => HLo) hsb.2 (fun _ => hsb.1) hf6 hj6
            rw [← HYe.out hc] at S6
            have HS6 := Lib.hid S6
            have r6 := S6.box.c0
            have c60 : w6.cell? ⟨b1, off1 + t * 2, none⟩ = some (.int .i64 vx) := (World.cell?_of_block (a := ⟨b1, off1 + t * 2, none⟩) (hf6.block b1 (by omega) (by omega) (by omega))).trans hHeld.2.1
            have c61 : w6.cell? ⟨b1, off1 + t * 2 + 1, none⟩ = some (.int .i64 vy) := (World.cell?_of_block (a := ⟨b1, off1 + t * 2 + 1, none⟩) (hf6.block b1 (by omega) (by omega) (by omega))).trans hHeld.2.2
            clear hf6 hj6 S5 S6 HFc HHeld HFv HNo HYe hc
            go_wp2_with fail
            refine hK.out _ _ ⟨r6, c60, c61⟩ (fun hHeld => ?_)
            clear hK K
            refine wpAnyH_done (by kernel_rfl) ?_ _
            refine NoPanic.normal ?_
            clear hHeld c60 c61 r6
            go_wp2
            go_roundg (gk - 1)
            case measure => omega
            case rel => exact ⟨t + 1, by omega, by go_num, HS6.out⟩
        · obtain rfl : t = N := by omega
          have HS := Lib.hid hS
          clear hS
          go_wp2
          go_ret
          rw [← HN.out]
          exact ⟨jb, cj, rfl, HS.out.rj, HS.out.bel⟩
end Go.Proofs.YtgkgdgchkhdgjaaDoor.Mat
