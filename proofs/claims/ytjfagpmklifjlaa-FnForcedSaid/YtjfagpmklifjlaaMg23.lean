/- LisU, FrY, MpD in one text. -/
import Derived.Test.YtjfagpmklifjlaaMg22
import Derived.Test.YtjfagpmklifjlaaMg16
import Derived.Test.YtjfagpmklifjlaaMg05
import Derived.Test.YtjfagpmklifjlaaMg20
import Derived.Test.YtjfagpmklifjlaaMg21
import Derived.Test.YtjfagpmklifjlaaMg13
import Derived.Test.YtjfagpmklifjlaaMg00
import Derived.Test.YtjfagpmklifjlaaMg02
import Derived.Test.YtjfagpmklifjlaaChecked
import Derived.Maps.RangeWalk
import Derived.Maps.OwnOps
import Derived.Maps.OwnSet
import Derived.DeepKeys4
import Derived.WideKeyEntry

namespace Go.Proofs.Ytjfagpmklifjlaa.LisU
set_option linter.unusedVariables false
set_option linter.unusedSimpArgs false
set_option maxRecDepth 100000
open Go.RowKit Go.Proofs.Ytjfagpmklifjlaa.Pure Go.Proofs.Ytjfagpmklifjlaa.Cell Go.Proofs.Ytjfagpmklifjlaa.Dms Go.Proofs.Ytjfagpmklifjlaa.Til Go.Proofs.Ytjfagpmklifjlaa.Dss Go.Proofs.Ytjfagpmklifjlaa.Lis Go.Joins
open Go.Proofs.Ytjfagpmklifjlaa.Cnt (gR tiles gR_in gR_out idxs idxs_cells tilesR tilesR_ok tilesR_not)
open Go.Proofs.Ytjfagpmklifjlaa.Prof (sCountTilings)
open Go.Proofs.Ytjfagpmklifjlaa.Reg

def allR (xs : List Int) : List (List Dm) := if okR xs then allT xs else []
theorem allR_ok {xs : List Int} (h : okR xs) : allR xs = allT xs := if_pos h
theorem allR_not {xs : List Int} (h : ¬ okR xs) : allR xs = [] := if_neg h
def halfR (xs : List Int) : Nat := (cellsR xs).length / 2
theorem allR_half {xs : List Int} : ∀ L ∈ allR xs, L.length = halfR xs := by
 intro L hL
 by_cases h : okR xs
 ·rw [allR_ok h] at hL; exact all_half h L hL
 ·rw [allR_not h] at hL; cases hL
def SSP (L : List (List Dm)) (h : Nat) (w : World) (e : Ending) (w' : World) : Prop := ∃ A cap, e = .returned (.slice A L.length cap) ∧ SSIn w' w.heap.size w'.heap.size A L.length cap h L ∧ Below w.heap.size w w'
def listR (xs : List Int) : List (List Dm) := if (allR xs).length ≤ 300 then allR xs else []
theorem listR_half {xs : List Int} : ∀ L ∈ listR xs, L.length = halfR xs := by
 intro L hL
 unfold listR at hL
 split at hL
 ·exact allR_half L hL
 ·cases hL
theorem halfR_le (xs : List Int) : halfR xs ≤ 32 := by unfold halfR; have := cellsR_length xs; omega
theorem allR_count (xs : List Int) : ((allR xs).length : Int) = tilesR xs := by
 by_cases h : okR xs
 ·rw [allR_ok h, all_length h]
 ·rw [allR_not h, tilesR_not h]; rfl

set_option maxHeartbeats 1000000 in
theorem sListTilings (w : World) (A : Option Addr) (n cap B : Nat) (xs : List Int) (hx : xs.length = n) (hn : (n : Int) ≤ 9223372036854775807) (hrow : RowB w B A xs) (hB : B ≤ w.heap.size) :
  Calls Try.prog 13 #[.agg #[.slice A n cap]] w (SSP (listR xs) (halfR xs) w) := by
 have HCt := Lib.hid (fun W (hb : Below w.heap.size w W) => sCountTilings W A n cap B xs hx hn (hrow.below hb hB) (by have := hb.size; omega))
 have HR := Lib.hid (Rg.new w (.slice A n cap))
 have HS := Lib.hid (below_alloc1 w (.cells #[.slice A n cap] 26))
 have hcnt := allR_count xs
 have HIn := Lib.hid (fun W => l01In (tilesR xs) 1 300 W)
 by_cases hin : 1 ≤ tilesR xs ∧ tilesR xs ≤ 300
 ·have ho : okR xs := by
   by_cases q : okR xs
   ·exact q
   ·rw [tilesR_not q] at hin; omega
  rw [inB_of hin] at HIn
  have HL := Lib.hid (fun W (hb : Below w.heap.size w W) (g : Nat) (hd : Hd W g 0 []) => by
   have := sList xs n hx ho A cap B (halfR xs) rfl 65 W (hrow.below hb hB) (by have := hb.size; omega) [] 0 (Beg.zero xs) (Nat.zero_le _) (fun i hi => by omega) (by have := unc_length [] (cellsR xs); have := cellsR_length xs; omega) g 0 hd (by simp) 300 (by omega) (Nat.le_refl _)
   rw [show List.take 300 (cont xs []) = listR xs by
    unfold listR
    rw [if_pos (by omega), cont_nil, allR_ok ho]
    rw [allR_ok ho] at hcnt
    exact List.take_of_length_le (by show (allT xs).length ≤ 300; omega)] at this
   exact show Calls Try.prog 44 #[.agg #[.slice A n cap], .slice (some ⟨g, 0, none⟩) 0 0, .int .i64 300] W (SSPost (listR xs) (halfR xs) W) from this)
  have HMd := Lib.hid (fun (W : World) => World.ownsRow_made (base := 0) (e := 41) (size := 3) W #[] 0 (Nat.zero_le _) (by unfold maxLen; omega) rfl)
  generalize tilesR xs = q at HCt HIn
  generalize halfR xs = h at HL ⊢
  generalize listR xs = L at HL ⊢
  clear hcnt hin ho hx hn hrow hB
  go_enter Try.func13, Try.ntmps13
  go_wp2_with fail
  have c0 := HR.out.c0
  have R0 := HR.out
  have B0 := HS.out
  generalize w.alloc (.cells #[.slice A n cap] 26) = W0 at c0 R0 B0 ⊢
  refine (HCt.out _ B0).mono ?_
  rintro e w1 ⟨rfl, hb1⟩
  have R1 := R0.on hb1
  have B1 := B0.trans (hb1.mono B0.size)
  clear R0 B0 hb1 HR HS HCt c0
  go_wp2_with fail
  refine (HIn.out _).mono ?_
  rintro e w2 ⟨rfl, hw⟩
  have hw := hw.symm
  subst hw
  have c1 := R1.c0
  have B2 := B1.alloc B1.size (.cells #[] 41)
  have hsz := B1.size
  go_wp2_with fail
  refine (HL.out _ B2 _ (HMd.out w1)).mono ?_
  rintro e w3 ⟨g, c, rfl, hss, hb3⟩
  have HP := Lib.hid (show SSP L h w (.returned (.slice (some ⟨g, 0, none⟩) L.length c)) w3 from ⟨_, c, rfl, hss.wide (by simp; omega) (Nat.le_refl _), B2.trans (hb3.mono B2.size)⟩)
  clear hss hb3 HL HMd
  go_wp2
  go_ret
  exact HP.out
 ·have hE : listR xs = [] := by
   unfold listR
   split
   ·exact List.eq_nil_of_length_eq_zero (by omega)
   ·rfl
  rw [inB_not hin] at HIn
  have HP := Lib.hid (fun (w1 : World) (hb : Below w.heap.size w w1) => show SSP (listR xs) (halfR xs) w (.returned (.slice (some ⟨w1.heap.size, 0, none⟩) 0 0)) (w1.alloc (.cells #[] 28)) by
   rw [hE]
   have hn := World.ownsRow_made (base := w.heap.size) (e := 28) (size := 1) w1 #[] 0 hb.size (by unfold maxLen; omega) rfl
   exact ⟨_, 0, rfl, ⟨[], ⟨hn, fun g hg => (hn.lt g hg).2⟩, Ins.nil _ _ _ _⟩, hb.alloc hb.size _⟩)
  generalize tilesR xs = q at HCt HIn
  clear hcnt hin hE hx hn hrow hB
  go_enter Try.func13, Try.ntmps13
  go_wp2_with fail
  have c0 := HR.out.c0
  have B0 := HS.out
  generalize w.alloc (.cells #[.slice A n cap] 26) = W0 at c0 B0 ⊢
  refine (HCt.out _ B0).mono ?_
  rintro e w1 ⟨rfl, hb1⟩
  have B1 := B0.trans (hb1.mono B0.size)
  clear B0 hb1 HR HS HCt c0
  go_wp2_with fail
  refine (HIn.out _).mono ?_
  rintro e w2 ⟨rfl, hw⟩
  have hw := hw.symm
  subst hw
  go_wp2
  go_ret
  exact HP.out _ B1

end Go.Proofs.Ytjfagpmklifjlaa.LisU

namespace Go.Proofs.Ytjfagpmklifjlaa.Frd
set_option linter.unusedVariables false
set_option linter.unusedSimpArgs false
open Go.RowKit Go.Proofs.Ytjfagpmklifjlaa.Pure Go.Proofs.Ytjfagpmklifjlaa.Dom Go.Proofs.Ytjfagpmklifjlaa.Dms Go.Proofs.Ytjfagpmklifjlaa.Til Go.Proofs.Ytjfagpmklifjlaa.Fr Go.Joins
open Go.Proofs.Ytjfagpmklifjlaa.Cnt (tilesR)
open Go.Proofs.Ytjfagpmklifjlaa.Lis (allT all_til all_length)
open Go.Proofs.Ytjfagpmklifjlaa.LisU (listR listR_half halfR allR allR_ok)
open Go.Proofs.Ytjfagpmklifjlaa.Reg (countR)

theorem poss_len (xs : List Int) : (possD xs).length ≤ 128 := by
 by_cases ok : okR xs
 ·rw [← poss_fits ok]; exact Nat.le_trans (List.length_filter_le _ _) (allD_len xs)
 ·unfold possD; rw [if_neg ok]; simp
def CellF (F P : List Dm) (x y : Int) : Prop := 1 ≤ (overL P x y).length ∧ (overL P x y).length ≤ 4 ∧ ((overL P x y).length = 1 ↔ anyM F x y = true)
def ShareF (m : Nat) (k : Int) (s : Int × Int) : Prop := 1 ≤ s.1 ∧ s.1 ≤ s.2 ∧ s.2 ≤ 300 ∧ 0 ≤ k ∧ k ≤ 300 ∧ s.1 * (m : Int) = s.2 * k
structure ForF (ys : List Int) : Prop where
 lst : listR ys = allT ys
 cnt : (((allT ys).length : Nat) : Int) = tilesR ys
 one : 1 ≤ (allT ys).length
 few : (allT ys).length ≤ 300
 chg : ∀ L ∈ allT ys, chgN L (possD ys) = 0 ∧ chgN (forcD ys) L = 0
 cel : ∀ x y, (x, y) ∈ cellsR ys → CellF (forcD ys) (possD ys) x y
 shr : ∀ d ∈ possD ys, ShareF (allT ys).length (cW ys d) (shareR ys d)
 ok : okR (freeR ys)
 len : (freeR ys).length = 8
 til : tilesR (freeR ys) = (((allT ys).length : Nat) : Int)
 non : forcD (freeR ys) = []
 cls : countR (freeR ys) + 2 * (((forcD ys).length : Nat) : Int) = (((cellsR ys).length : Nat) : Int)
 small : ∀ d ∈ possD ys, Sm d.1 ∧ Sm d.2.1
theorem forF {ys : List Int} (ok : okR ys) (h1 : 1 ≤ tilesR ys) (h2 : tilesR ys ≤ 300) : ForF ys := by
 have hc := tiles_cnt ok
 have p := possD_poss ys
 have f := forcD_forc ys
 have e : freeR ys = freeD ys (forcD ys) := if_pos (by omega)
 obtain ⟨z1, z2, z3⟩ := freeD_less ok (F := forcD ys) forcD_ok
 obtain ⟨L0, hL0⟩ := List.exists_mem_of_length_pos (l := allT ys) (by omega)
 have t0 := all_til ok L0 hL0
 refine ⟨?_, by omega, by omega, by omega, fun L hL => ⟨chg_none (poss_all p (all_til ok L hL)), chg_none (forc_in f (all_til ok L hL))⟩, fun x y h => ?_, fun d hd => ?_, by rw [e]; exact z1, by rw [e]; exact z3, ?_, ?_, ?_, fun d hd => ?_⟩
 ·unfold listR; rw [allR_ok ok, if_pos (by omega)]
 ·have hc := mem_cells.1 h
  exact ⟨over_pos p t0 hc, over_four p, over_one p f t0 hc⟩
 ·have hp := (possD_ok hd).2.2
  obtain ⟨k, hk, hle, hm⟩ := cW_nonneg ys d
  have hm2 : (tilesR ys).toNat = (allT ys).length := by omega
  rw [hm2] at hle
  obtain ⟨s1, s2, s3⟩ := share_ok (n := (allT ys).length) (k := k) (by omega) hle
  have hs : shareR ys d = (((k / Nat.gcd (allT ys).length k : Nat) : Int), (((allT ys).length / Nat.gcd (allT ys).length k : Nat) : Int)) := by
   unfold shareR
   rw [hk, Int.toNat_natCast, hm2]
   exact if_neg (by omega)
  rw [hs, hk]
  have hd := Nat.div_le_self (allT ys).length (Nat.gcd (allT ys).length k)
  refine ⟨by simp only; omega, by simp only; omega, by simp only; omega, by omega, by omega, ?_⟩
  simp only
  rw [← Int.natCast_mul, ← Int.natCast_mul, s3]
 ·rw [e, tiles_cnt z1, rest_tiles ok z1 f z2 t0]
 ·rw [e]; exact rest_forced ok z1 f z2 t0 (forcD_forc _)
 ·rw [e]
  have := rest_cells ok z1 f z2 t0
  unfold countR
  omega
 ·have := (second_in (possD_ok hd).2.1).1
  unfold Sm
  omega
end Go.Proofs.Ytjfagpmklifjlaa.Frd

namespace Go.Proofs.Ytjfagpmklifjlaa.Frd
set_option linter.unusedVariables false
set_option linter.unusedSimpArgs false
set_option maxRecDepth 100000
open Go.RowKit Go.Proofs.Ytjfagpmklifjlaa.Dms
open Go.Maps (Keyed)
open Go.ChangeMaps Go.MapKept

theorem laidOut : laidOutB Try.prog = true := by kernel_rfl
theorem rowK : (41 : TypeId) < Try.prog.types.size := of_decide_eq_true (by kernel_rfl)
theorem deepK : Try.prog.keyTypeAt (Try.prog.types.size + 1) 41 = true := by kernel_rfl
theorem wideK : (match Try.prog.underlying 41 with | some (.array _ _) | some (.struct _) => true | _ => false) = true := by kernel_rfl
theorem lawK : WideMaps.KeyLaw Try.prog 41 := deep_law_laid laidOut (m := 2) (by omega) rowK (by kernel_rfl) wideK
theorem law : Keyed Try.prog 41 := Keyed.of_law lawK
theorem ut : Try.prog.underlying 90 = some (.map 41 3) := by kernel_rfl
theorem ui : Try.prog.underlying 3 = some (.int .i64) := by kernel_rfl
theorem ubo : Try.prog.underlying 4 = some .bool := by kernel_rfl
def dV (d : Dm) : Value := .agg #[.int .i64 d.1, .int .i64 d.2.1, .bool d.2.2]
theorem dV_inj {d e : Dm} (h : dV d = dV e) : d = e := by
 obtain ⟨a, b, c⟩ := d
 obtain ⟨a', b', c'⟩ := e
 unfold dV at h
 simpa using h
noncomputable def fsK : Array Field := match Try.prog.underlying 41 with | some (.struct fs) => fs | _ => #[]
theorem uk : Try.prog.underlying 41 = some (.struct fsK) := by kernel_rfl
theorem fsK_is : fsK.toList.map (fun f => (f.name != "_", f.type, f.offset)) = [(true, 3, 0), (true, 3, 1), (true, 4, 2)] := by kernel_rfl
def kD (d : Dm) : Lit := .string (keyBytes [.int .i64 d.1, .int .i64 d.2.1, .bool d.2.2])
def Kf (d : Dm) : Prop := (Lit.int .i64 d.1).wf = true ∧ (Lit.int .i64 d.2.1).wf = true
theorem keyD {d : Dm} (h : Kf d) : keyOf Try.prog 41 (dV d) = some (kD d) := by
 obtain ⟨a, b, c⟩ := d
 obtain ⟨ha, hb⟩ := h
 have hu := uk
 have hf := fsK_is
 generalize fsK = fs at hu hf
 have hc : Try.prog.cellsOf 41 = 3 := by kernel_rfl
 have hi : Try.prog.cellsOf 3 = 1 := by kernel_rfl
 have hbo : Try.prog.cellsOf 4 = 1 := by kernel_rfl
 have ht : Try.prog.keyType 41 = true := deepK
 have hsz : ∃ n, Try.prog.types.size + 1 = n + 1 + 1 := ⟨Try.prog.types.size - 1, by have : 0 < Try.prog.types.size := Nat.lt_of_le_of_lt (Nat.zero_le _) rowK; omega⟩
 obtain ⟨n, hn⟩ := hsz
 have he : ∀ c : Int, (Lit.int .i64 c).wf = true → Try.prog.keyLits (n + 1) 3 [.int .i64 c] = some [.int .i64 c] := fun c hw => by
  unfold Program.keyLits
  rw [ui]; simp [hw]
 have hE : ∀ c : Bool, Try.prog.keyLits (n + 1) 4 [.bool c] = some [.bool c] := fun c => by
  unfold Program.keyLits
  rw [ubo]
 have hkl : Try.prog.keyLits (n + 1 + 1) 41 [.int .i64 a, .int .i64 b, .bool c] = some [.int .i64 a, .int .i64 b, .bool c] := by
  rw [Program.keyLits.eq_def]
  simp only [hu, hc]
  have hall : fs.all (fun f => f.name != "_") = true := by
   rw [← Array.all_toList]
   have : (fs.toList.map (fun f => (f.name != "_", f.type, f.offset))).all (fun p => p.1) = true := by rw [hf]; rfl
   simpa [List.all_map, Function.comp_def] using this
  rw [if_pos ⟨rfl, hall⟩]
  have hm : (fs.toList.mapM fun f => Try.prog.keyLits (n + 1) f.type (([Value.int .i64 a, Value.int .i64 b, Value.bool c].drop f.offset).take (Try.prog.cellsOf f.type))) = ((fs.toList.map (fun f => (f.name != "_", f.type, f.offset))).mapM fun p => Try.prog.keyLits (n + 1) p.2.1 (([Value.int .i64 a, Value.int .i64 b, Value.bool c].drop p.2.2).take (Try.prog.cellsOf p.2.1))) := by
   rw [List.mapM_map]; rfl
  rw [hm, hf]
  simp [hi, hbo, he a ha, he b hb, hE c]
 have hform : (Value.agg #[.int .i64 a, .int .i64 b, .bool c]).formed Try.prog 41 = true := by
  simp [Value.formed, hu, hc]
 unfold keyOf
 rw [hu]
 simp only [dV, ht, hform, hn, Bool.and_true, if_true]
 show Option.map _ (Try.prog.keyLits (n + 1 + 1) 41 [.int .i64 a, .int .i64 b, .bool c]) = _
 rw [hkl]; rfl
theorem kD_key {d : Dm} (h : Kf d) : WideAt.IsKeyLit (kD d) := law.key (keyD h)
theorem kD_inj {d e : Dm} (h : Kf d) (h' : Kf e) (q : kD d = kD e) : d = e := by
 have h1 := keyD h
 rw [q] at h1
 exact dV_inj (law.inj h1 (keyD h'))
theorem same_kD {d e : Dm} (h : Kf d) (h' : Kf e) : (kD d).sameKey (kD e) = decide (d = e) := by
 by_cases q : d = e
 ·subst q; rw [WideAt.sameKey_self (kD_key h)]; simp
 ·rw [Maps.sameKey_ne (fun r => q (kD_inj h h' r))]; simp [q]
def KD (D : DataW Unit) (E : List Dm) (c : Dm → Int) : Prop :=
 (∀ d ∈ E, Kf d) ∧ (∀ kl, Maps.has D kl = true → ∃ d ∈ E, kl = kD d) ∧ ∀ d ∈ E, Maps.has D (kD d) = true ∧ ∀ zd, D.atKey (kD d) zd = .lit (.int .i64 (c d))
theorem KD.put {D : DataW Unit} {E : List Dm} {c : Dm → Int} (h : KD D E c) (hD : Maps.IsMap D) {d : Dm} (hd : Kf d) : KD (D.put (kD d) (.lit (.int .i64 (c d)))) (E ++ [d]) c := by
 have hK : ∀ e ∈ E ++ [d], Kf e := fun e he => by
  rcases List.mem_append.1 he with he | he
  ·exact h.1 e he
  ·rw [List.mem_singleton.1 he]; exact hd
 refine ⟨hK, fun kl hkl => ?_, fun e he => ?_⟩
 ·by_cases q : kl = kD d
  ·exact ⟨d, List.mem_append.2 (.inr (List.mem_singleton.2 rfl)), q⟩
  ·rw [Maps.has_put_other q] at hkl
   obtain ⟨e, he, rfl⟩ := h.2.1 _ hkl
   exact ⟨e, List.mem_append.2 (.inl he), rfl⟩
 ·by_cases q : e = d
  ·subst q
   exact ⟨Maps.has_put_same hD (kD_key hd) _, fun zd => by rw [Maps.atKey_put_same hD (kD_key hd)]⟩
  ·have ne : kD e ≠ kD d := fun r => q (kD_inj (hK e he) hd r)
   have he' : e ∈ E := by
    rcases List.mem_append.1 he with he | he
    ·exact he
    ·exact absurd (List.mem_singleton.1 he) q
   obtain ⟨a, b⟩ := h.2.2 e he'
   exact ⟨by rw [Maps.has_put_other ne]; exact a, fun zd => by rw [Maps.atKey_put_other ne]; exact b zd⟩
theorem KD.none {c : Dm → Int} : KD (.map []) [] c := ⟨fun d h => (by cases h), fun kl h => (by cases h), fun d h => (by cases h)⟩
noncomputable abbrev RE : Value → Option (DataW Unit × List MemPlace) := plainElem (H := Unit) Try.prog 3
def OwnD (w : World) (b n : Nat) (E : List Dm) (c : Dm → Int) : Prop := ∃ D, w.ownsMap Try.prog 41 RE b n D ∧ KD D E c
section
variable {w w' : World} {b r n n' : Nat} {E : List Dm} {c : Dm → Int}
theorem OwnD.up (h : OwnD w b n E c) (hn : n ≤ n') : OwnD w b n' E c := by
 obtain ⟨D, h1, h2⟩ := h
 exact ⟨D, h1.mono hn, h2⟩
theorem OwnD.lt (h : OwnD w b n E c) : b < w.heap.size := by
 obtain ⟨D, h, _⟩ := h
 exact h.lt
theorem OwnD.same (h : OwnD w b n E c) (hb : w'.heap[b]? = w.heap[b]?) : OwnD w' b n E c := by
 obtain ⟨D, ⟨es, clock, h1, h2⟩, h3⟩ := h
 exact ⟨D, ⟨es, clock, hb.trans h1, h2⟩, h3⟩
theorem OwnD.on (h : OwnD w b n E c) (hb : Below w.heap.size w w') : OwnD w' b n E c := h.same (hb.block b h.lt)
theorem OwnD.made (w : World) (c : Dm → Int) : OwnD (w.alloc (.map #[] 0)) w.heap.size 0 [] c := ⟨.map [], World.ownsMap_made w _ _ _, KD.none⟩
theorem OwnD.store (h : OwnD w b n E c) (hn : n < 1000) {d : Dm} (hd : Kf d) (hc : (Lit.int .i64 (c d)).wf = true) : ∃ w', (Instr.mapUpdate 90 (.map (some b)) (dV d) (.int .i64 (c d))).run Try.prog w = .ok () w' ∧ OwnD w' b (n + 1) (E ++ [d]) c ∧ w.mapTurned w' b := by
 obtain ⟨D, ho, hD⟩ := h
 obtain ⟨w', hrun, ho', ht⟩ := ho.store law ut (by unfold maxLen; omega) (keyD hd) (plainElem_int (H := Unit) ui (a := c d) hc)
 exact ⟨w', hrun, ⟨_, ho', hD.put ho.isMap hd⟩, ht⟩
theorem turned_grown (h : w.mapTurned w' b) : w.grownBy w' (some b) := by
 obtain ⟨es, clock, es', clock', hb, rfl⟩ := h
 exact ⟨rfl, rfl, rfl, by simp [setBlock], fun i _ hi => heap_setBlock_other hb _ (fun e => hi (by rw [e]))⟩
def RgD (w : World) (b r : Nat) (E : List Dm) (c : Dm → Int) (left : Dm → Bool) (cnt : Nat) : Prop :=
 ∃ n D lf, n ≤ 1000 ∧ w.ranges Try.prog 41 RE b r n D lf cnt ∧ KD D E c ∧ (∀ d ∈ E, lf (kD d) = left d) ∧ ∀ kl, lf kl = true → ∃ d ∈ E, kl = kD d
theorem RgD.lt {left : Dm → Bool} {cnt : Nat} (h : RgD w b r E c left cnt) : r < w.heap.size ∧ b < w.heap.size := by
 obtain ⟨n, D, lf, _, h, _⟩ := h
 exact ⟨h.lt, h.owns.lt⟩
theorem RgD.left_eq {left : Dm → Bool} {cnt : Nat} (h : RgD w b r E c left cnt) : w.rangeLeft b r = cnt := by
 obtain ⟨n, D, lf, _, h, _⟩ := h
 exact h.left_eq
theorem RgD.kept {left : Dm → Bool} {cnt : Nat} {row : Option Nat} (h : RgD w b r E c left cnt) (hg : w.grownBy w' row) (hb : some b ≠ row) (hr : some r ≠ row) : RgD w' b r E c left cnt := by
 obtain ⟨n, D, lf, h0, h, rest⟩ := h
 exact ⟨n, D, lf, h0, h.kept hg hb hr, rest⟩
theorem RgD.on {left : Dm → Bool} {cnt : Nat} (h : RgD w b r E c left cnt) (hb : Below w.heap.size w w') : RgD w' b r E c left cnt :=
 h.kept (row := none) ⟨hb.os, hb.tape, hb.output, hb.size, fun k hk _ => hb.block k hk⟩ (by simp) (by simp)
theorem OwnD.range (h : OwnD w b n E c) (hn : n ≤ 1000) : ∃ w' cnt, (Instr.range 90 (.map (some b))).run Try.prog w = .ok (.pointer (some ⟨w.heap.size, 0, none⟩)) w' ∧ cnt ≤ n ∧ RgD w' b w.heap.size E c (fun d => decide (d ∈ E)) cnt ∧ w.grownBy w' none ∧ w'.heap.size = w.heap.size + 1 := by
 obtain ⟨D, ho, hD⟩ := h
 obtain ⟨w', hrun, hr, hg, hs⟩ := ho.range law ut
 exact ⟨w', _, hrun, ho.size_le, ⟨n, D, _, hn, hr, hD, fun d hd => (hD.2.2 d hd).1.trans (decide_eq_true hd).symm, fun kl hkl => hD.2.1 kl hkl⟩, hg, hs⟩
end
def lessE (left : Dm → Bool) (d : Dm) : Dm → Bool := fun z => left z && !decide (z = d)
def NoneLeft (E : List Dm) (left : Dm → Bool) : Prop := ∀ d ∈ E, left d = false
def OneLeft (m r : Nat) (E : List Dm) (c : Dm → Int) (left : Dm → Bool) (cnt : Nat) (x y : Int) (vs : Value) (q : Int) (w' : World) : Prop := ∃ s cnt', vs = .bool s ∧ RgD w' m r E c (lessE left (x, y, s)) cnt' ∧ (q = c (x, y, s) ∧ cnt' < cnt) ∧ (x, y, s) ∈ E ∧ left (x, y, s) = true
theorem next_d {ops : Array Oper} {rest : List Oper} {o : Oper} {a : Act} {Q : Exit → Act → World → Prop} (w : World) (hg : o.guard = none) (it : Operand) (hop : o.op = Op.next it false)
  (b r : Nat) (E : List Dm) (c : Dm → Int) (left : Dm → Bool) (cnt : Nat) (hit : a.eval it = .pointer (some ⟨r, 0, none⟩)) (h : RgD w b r E c left cnt)
  (hDone : NoneLeft E left → wpList Try.prog ops Q rest (a.put o.dst (.tuple #[.bool false])) w)
  (hMore : ∀ (x y : Int) (vs : Value) (q : Int) (w' : World), OneLeft b r E c left cnt x y vs q w' →
   w.grownBy w' (some r) → (Instr.entry (.pointer (some ⟨r, 0, none⟩))).run Try.prog w' = .ok (.tuple #[.agg #[.int .i64 x, .int .i64 y, vs], .int .i64 q]) w' → wpList Try.prog ops Q rest (a.put o.dst (.tuple #[.bool true, .agg #[.int .i64 x, .int .i64 y, vs], .int .i64 q])) w') :
  wpList Try.prog ops Q (o :: rest) a w := by
 obtain ⟨n, D, lf, hn, h, hD, hl1, hl2⟩ := h
 refine wpList_plain hg fun K' hK' => ?_
 unfold Oper.wp
 rcases h.next law o.type with ⟨h0, hl0, hrun⟩ | ⟨key, v, kl, y, w', cnt', hkey, hlk, hv, hat, hrun, hrg, hlt, hgr, hsz, hen⟩
 ·simp [execOp, hop, hit, hrun, Result.andThen]
  exact hK' _ _ (hDone fun d hd => by rw [← hl1 d hd]; exact hl0 _)
 ·obtain ⟨d, hd, rfl⟩ := hl2 kl hlk
  obtain rfl := law.inj hkey (keyD (hD.1 d hd))
  obtain ⟨j, rfl, rfl, hwj⟩ := plainElem_int_inv ui hv
  have hj2 := hat (.lit (.int .i64 0))
  rw [(hD.2.2 d hd).2] at hj2
  simp only [DataW.lit.injEq, Lit.int.injEq, true_and] at hj2
  have hlf : left d = true := by rw [← hl1 d hd]; exact hlk
  have hrg2 : RgD w' b r E c (lessE left d) cnt' := ⟨n, D, _, hn, hrg, hD, fun z hz => by rw [hl1 z hz, same_kD (hD.1 z hz) (hD.1 d hd)]; rfl, fun kl' hk' => by
   rw [Bool.and_eq_true] at hk'
   exact hl2 kl' hk'.1⟩
  obtain ⟨x, y, s⟩ := d
  simp [execOp, hop, hit, hrun, Result.andThen]
  exact hK' _ _ (hMore x y (.bool s) j w' ⟨s, cnt', rfl, hrg2, ⟨hj2.symm, hlt⟩, hd, hlf⟩ hgr hen)
theorem run_makeMapD {w : World} : (Instr.makeMap 90 none).run Try.prog w = .ok (.map (some w.heap.size)) (w.alloc (.map #[] 0)) := by
 simp [Instr.makeMap, run_underlying ut, Result.andThen]
end Go.Proofs.Ytjfagpmklifjlaa.Frd
