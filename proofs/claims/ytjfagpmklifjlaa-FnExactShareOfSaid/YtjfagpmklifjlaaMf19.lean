/- MpD, TilA, RegF, TilU, TilI in one text. -/
import Derived.Test.YtjfagpmklifjlaaMf00
import Derived.Test.YtjfagpmklifjlaaMf02
import Derived.Test.YtjfagpmklifjlaaChecked
import Derived.Maps.RangeWalk
import Derived.Maps.OwnOps
import Derived.Maps.OwnSet
import Derived.DeepKeys4
import Derived.WideKeyEntry
import Derived.Test.YtjfagpmklifjlaaMf03
import Derived.Test.YtjfagpmklifjlaaMf01
import Derived.Test.YtjfagpmklifjlaaMf07
import Derived.OpenShut
import Derived.ChangeSlices
import Derived.ProofKit
import Derived.Test.YtjfagpmklifjlaaMf14
import Derived.Test.YtjfagpmklifjlaaMf08
import Derived.Deep.RegionHeld3

namespace Go.Proofs.Ytjfagpmklifjlaa.Frd
set_option linter.unusedVariables false
set_option linter.unusedSimpArgs false
set_option maxRecDepth 100000
open Go.RowKit Go.Proofs.Ytjfagpmklifjlaa.Dms
open Go.Maps (Keyed)
open Go.ChangeMaps Go.MapKept

theorem laidOut : laidOutB Try.prog = true := by kernel_rfl
theorem rowK : (41 : TypeId) < Try.prog.types.size := of_decide_eq_true (by kernel_rfl)
theorem deepK : Try.prog.keyTypeAt (Try.prog.types.size + 1) 41 = true := by kernel_rfl
theorem wideK : (match Try.prog.underlying 41 with | some (.array _ _) | some (.struct _) => true | _ => false) = true := by kernel_rfl
theorem lawK : WideMaps.KeyLaw Try.prog 41 := deep_law_laid laidOut (m := 2) (by omega) rowK (by kernel_rfl) wideK
theorem law : Keyed Try.prog 41 := Keyed.of_law lawK
theorem ut : Try.prog.underlying 90 = some (.map 41 3) := by kernel_rfl
theorem ui : Try.prog.underlying 3 = some (.int .i64) := by kernel_rfl
theorem ubo : Try.prog.underlying 4 = some .bool := by kernel_rfl
def dV (d : Dm) : Value := .agg #[.int .i64 d.1, .int .i64 d.2.1, .bool d.2.2]
theorem dV_inj {d e : Dm} (h : dV d = dV e) : d = e := by
 obtain ⟨a, b, c⟩ := d
 obtain ⟨a', b', c'⟩ := e
 unfold dV at h
 simpa using h
noncomputable def fsK : Array Field := match Try.prog.underlying 41 with | some (.struct fs) => fs | _ => #[]
theorem uk : Try.prog.underlying 41 = some (.struct fsK) := by kernel_rfl
theorem fsK_is : fsK.toList.map (fun f => (f.name != "_", f.type, f.offset)) = [(true, 3, 0), (true, 3, 1), (true, 4, 2)] := by kernel_rfl
def kD (d : Dm) : Lit := .string (keyBytes [.int .i64 d.1, .int .i64 d.2.1, .bool d.2.2])
def Kf (d : Dm) : Prop := (Lit.int .i64 d.1).wf = true ∧ (Lit.int .i64 d.2.1).wf = true
theorem keyD {d : Dm} (h : Kf d) : keyOf Try.prog 41 (dV d) = some (kD d) := by
 obtain ⟨a, b, c⟩ := d
 obtain ⟨ha, hb⟩ := h
 have hu := uk
 have hf := fsK_is
 generalize fsK = fs at hu hf
 have hc : Try.prog.cellsOf 41 = 3 := by kernel_rfl
 have hi : Try.prog.cellsOf 3 = 1 := by kernel_rfl
 have hbo : Try.prog.cellsOf 4 = 1 := by kernel_rfl
 have ht : Try.prog.keyType 41 = true := deepK
 have hsz : ∃ n, Try.prog.types.size + 1 = n + 1 + 1 := ⟨Try.prog.types.size - 1, by have : 0 < Try.prog.types.size := Nat.lt_of_le_of_lt (Nat.zero_le _) rowK; omega⟩
 obtain ⟨n, hn⟩ := hsz
 have he : ∀ c : Int, (Lit.int .i64 c).wf = true → Try.prog.keyLits (n + 1) 3 [.int .i64 c] = some [.int .i64 c] := fun c hw => by
  unfold Program.keyLits
  rw [ui]; simp [hw]
 have hE : ∀ c : Bool, Try.prog.keyLits (n + 1) 4 [.bool c] = some [.bool c] := fun c => by
  unfold Program.keyLits
  rw [ubo]
 have hkl : Try.prog.keyLits (n + 1 + 1) 41 [.int .i64 a, .int .i64 b, .bool c] = some [.int .i64 a, .int .i64 b, .bool c] := by
  rw [Program.keyLits.eq_def]
  simp only [hu, hc]
  have hall : fs.all (fun f => f.name != "_") = true := by
   rw [← Array.all_toList]
   have : (fs.toList.map (fun f => (f.name != "_", f.type, f.offset))).all (fun p => p.1) = true := by rw [hf]; rfl
   simpa [List.all_map, Function.comp_def] using this
  rw [if_pos ⟨rfl, hall⟩]
  have hm : (fs.toList.mapM fun f => Try.prog.keyLits (n + 1) f.type (([Value.int .i64 a, Value.int .i64 b, Value.bool c].drop f.offset).take (Try.prog.cellsOf f.type))) = ((fs.toList.map (fun f => (f.name != "_", f.type, f.offset))).mapM fun p => Try.prog.keyLits (n + 1) p.2.1 (([Value.int .i64 a, Value.int .i64 b, Value.bool c].drop p.2.2).take (Try.prog.cellsOf p.2.1))) := by
   rw [List.mapM_map]; rfl
  rw [hm, hf]
  simp [hi, hbo, he a ha, he b hb, hE c]
 have hform : (Value.agg #[.int .i64 a, .int .i64 b, .bool c]).formed Try.prog 41 = true := by
  simp [Value.formed, hu, hc]
 unfold keyOf
 rw [hu]
 simp only [dV, ht, hform, hn, Bool.and_true, if_true]
 show Option.map _ (Try.prog.keyLits (n + 1 + 1) 41 [.int .i64 a, .int .i64 b, .bool c]) = _
 rw [hkl]; rfl
theorem kD_key {d : Dm} (h : Kf d) : WideAt.IsKeyLit (kD d) := law.key (keyD h)
theorem kD_inj {d e : Dm} (h : Kf d) (h' : Kf e) (q : kD d = kD e) : d = e := by
 have h1 := keyD h
 rw [q] at h1
 exact dV_inj (law.inj h1 (keyD h'))
theorem same_kD {d e : Dm} (h : Kf d) (h' : Kf e) : (kD d).sameKey (kD e) = decide (d = e) := by
 by_cases q : d = e
 ·subst q; rw [WideAt.sameKey_self (kD_key h)]; simp
 ·rw [Maps.sameKey_ne (fun r => q (kD_inj h h' r))]; simp [q]
def KD (D : DataW Unit) (E : List Dm) (c : Dm → Int) : Prop :=
 (∀ d ∈ E, Kf d) ∧ (∀ kl, Maps.has D kl = true → ∃ d ∈ E, kl = kD d) ∧ ∀ d ∈ E, Maps.has D (kD d) = true ∧ ∀ zd, D.atKey (kD d) zd = .lit (.int .i64 (c d))
theorem KD.put {D : DataW Unit} {E : List Dm} {c : Dm → Int} (h : KD D E c) (hD : Maps.IsMap D) {d : Dm} (hd : Kf d) : KD (D.put (kD d) (.lit (.int .i64 (c d)))) (E ++ [d]) c := by
 have hK : ∀ e ∈ E ++ [d], Kf e := fun e he => by
  rcases List.mem_append.1 he with he | he
  ·exact h.1 e he
  ·rw [List.mem_singleton.1 he]; exact hd
 refine ⟨hK, fun kl hkl => ?_, fun e he => ?_⟩
 ·by_cases q : kl = kD d
  ·exact ⟨d, List.mem_append.2 (.inr (List.mem_singleton.2 rfl)), q⟩
  ·rw [Maps.has_put_other q] at hkl
   obtain ⟨e, he, rfl⟩ := h.2.1 _ hkl
   exact ⟨e, List.mem_append.2 (.inl he), rfl⟩
 ·by_cases q : e = d
  ·subst q
   exact ⟨Maps.has_put_same hD (kD_key hd) _, fun zd => by rw [Maps.atKey_put_same hD (kD_key hd)]⟩
  ·have ne : kD e ≠ kD d := fun r => q (kD_inj (hK e he) hd r)
   have he' : e ∈ E := by
    rcases List.mem_append.1 he with he | he
    ·exact he
    ·exact absurd (List.mem_singleton.1 he) q
   obtain ⟨a, b⟩ := h.2.2 e he'
   exact ⟨by rw [Maps.has_put_other ne]; exact a, fun zd => by rw [Maps.atKey_put_other ne]; exact b zd⟩
theorem KD.none {c : Dm → Int} : KD (.map []) [] c := ⟨fun d h => (by cases h), fun kl h => (by cases h), fun d h => (by cases h)⟩
noncomputable abbrev RE : Value → Option (DataW Unit × List MemPlace) := plainElem (H := Unit) Try.prog 3
def OwnD (w : World) (b n : Nat) (E : List Dm) (c : Dm → Int) : Prop := ∃ D, w.ownsMap Try.prog 41 RE b n D ∧ KD D E c
section
variable {w w' : World} {b r n n' : Nat} {E : List Dm} {c : Dm → Int}
theorem OwnD.up (h : OwnD w b n E c) (hn : n ≤ n') : OwnD w b n' E c := by
 obtain ⟨D, h1, h2⟩ := h
 exact ⟨D, h1.mono hn, h2⟩
theorem OwnD.lt (h : OwnD w b n E c) : b < w.heap.size := by
 obtain ⟨D, h, _⟩ := h
 exact h.lt
theorem OwnD.same (h : OwnD w b n E c) (hb : w'.heap[b]? = w.heap[b]?) : OwnD w' b n E c := by
 obtain ⟨D, ⟨es, clock, h1, h2⟩, h3⟩ := h
 exact ⟨D, ⟨es, clock, hb.trans h1, h2⟩, h3⟩
theorem OwnD.on (h : OwnD w b n E c) (hb : Below w.heap.size w w') : OwnD w' b n E c := h.same (hb.block b h.lt)
theorem OwnD.made (w : World) (c : Dm → Int) : OwnD (w.alloc (.map #[] 0)) w.heap.size 0 [] c := ⟨.map [], World.ownsMap_made w _ _ _, KD.none⟩
theorem OwnD.store (h : OwnD w b n E c) (hn : n < 1000) {d : Dm} (hd : Kf d) (hc : (Lit.int .i64 (c d)).wf = true) : ∃ w', (Instr.mapUpdate 90 (.map (some b)) (dV d) (.int .i64 (c d))).run Try.prog w = .ok () w' ∧ OwnD w' b (n + 1) (E ++ [d]) c ∧ w.mapTurned w' b := by
 obtain ⟨D, ho, hD⟩ := h
 obtain ⟨w', hrun, ho', ht⟩ := ho.store law ut (by unfold maxLen; omega) (keyD hd) (plainElem_int (H := Unit) ui (a := c d) hc)
 exact ⟨w', hrun, ⟨_, ho', hD.put ho.isMap hd⟩, ht⟩
theorem turned_grown (h : w.mapTurned w' b) : w.grownBy w' (some b) := by
 obtain ⟨es, clock, es', clock', hb, rfl⟩ := h
 exact ⟨rfl, rfl, rfl, by simp [setBlock], fun i _ hi => heap_setBlock_other hb _ (fun e => hi (by rw [e]))⟩
def RgD (w : World) (b r : Nat) (E : List Dm) (c : Dm → Int) (left : Dm → Bool) (cnt : Nat) : Prop :=
 ∃ n D lf, n ≤ 1000 ∧ w.ranges Try.prog 41 RE b r n D lf cnt ∧ KD D E c ∧ (∀ d ∈ E, lf (kD d) = left d) ∧ ∀ kl, lf kl = true → ∃ d ∈ E, kl = kD d
theorem RgD.lt {left : Dm → Bool} {cnt : Nat} (h : RgD w b r E c left cnt) : r < w.heap.size ∧ b < w.heap.size := by
 obtain ⟨n, D, lf, _, h, _⟩ := h
 exact ⟨h.lt, h.owns.lt⟩
theorem RgD.left_eq {left : Dm → Bool} {cnt : Nat} (h : RgD w b r E c left cnt) : w.rangeLeft b r = cnt := by
 obtain ⟨n, D, lf, _, h, _⟩ := h
 exact h.left_eq
theorem RgD.kept {left : Dm → Bool} {cnt : Nat} {row : Option Nat} (h : RgD w b r E c left cnt) (hg : w.grownBy w' row) (hb : some b ≠ row) (hr : some r ≠ row) : RgD w' b r E c left cnt := by
 obtain ⟨n, D, lf, h0, h, rest⟩ := h
 exact ⟨n, D, lf, h0, h.kept hg hb hr, rest⟩
theorem RgD.on {left : Dm → Bool} {cnt : Nat} (h : RgD w b r E c left cnt) (hb : Below w.heap.size w w') : RgD w' b r E c left cnt :=
 h.kept (row := none) ⟨hb.os, hb.tape, hb.output, hb.size, fun k hk _ => hb.block k hk⟩ (by simp) (by simp)
theorem OwnD.range (h : OwnD w b n E c) (hn : n ≤ 1000) : ∃ w' cnt, (Instr.range 90 (.map (some b))).run Try.prog w = .ok (.pointer (some ⟨w.heap.size, 0, none⟩)) w' ∧ cnt ≤ n ∧ RgD w' b w.heap.size E c (fun d => decide (d ∈ E)) cnt ∧ w.grownBy w' none ∧ w'.heap.size = w.heap.size + 1 := by
 obtain ⟨D, ho, hD⟩ := h
 obtain ⟨w', hrun, hr, hg, hs⟩ := ho.range law ut
 exact ⟨w', _, hrun, ho.size_le, ⟨n, D, _, hn, hr, hD, fun d hd => (hD.2.2 d hd).1.trans (decide_eq_true hd).symm, fun kl hkl => hD.2.1 kl hkl⟩, hg, hs⟩
end
def lessE (left : Dm → Bool) (d : Dm) : Dm → Bool := fun z => left z && !decide (z = d)
def NoneLeft (E : List Dm) (left : Dm → Bool) : Prop := ∀ d ∈ E, left d = false
def OneLeft (m r : Nat) (E : List Dm) (c : Dm → Int) (left : Dm → Bool) (cnt : Nat) (x y : Int) (vs : Value) (q : Int) (w' : World) : Prop := ∃ s cnt', vs = .bool s ∧ RgD w' m r E c (lessE left (x, y, s)) cnt' ∧ (q = c (x, y, s) ∧ cnt' < cnt) ∧ (x, y, s) ∈ E ∧ left (x, y, s) = true
theorem next_d {ops : Array Oper} {rest : List Oper} {o : Oper} {a : Act} {Q : Exit → Act → World → Prop} (w : World) (hg : o.guard = none) (it : Operand) (hop : o.op = Op.next it false)
  (b r : Nat) (E : List Dm) (c : Dm → Int) (left : Dm → Bool) (cnt : Nat) (hit : a.eval it = .pointer (some ⟨r, 0, none⟩)) (h : RgD w b r E c left cnt)
  (hDone : NoneLeft E left → wpList Try.prog ops Q rest (a.put o.dst (.tuple #[.bool false])) w)
  (hMore : ∀ (x y : Int) (vs : Value) (q : Int) (w' : World), OneLeft b r E c left cnt x y vs q w' →
   w.grownBy w' (some r) → (Instr.entry (.pointer (some ⟨r, 0, none⟩))).run Try.prog w' = .ok (.tuple #[.agg #[.int .i64 x, .int .i64 y, vs], .int .i64 q]) w' → wpList Try.prog ops Q rest (a.put o.dst (.tuple #[.bool true, .agg #[.int .i64 x, .int .i64 y, vs], .int .i64 q])) w') :
  wpList Try.prog ops Q (o :: rest) a w := by
 obtain ⟨n, D, lf, hn, h, hD, hl1, hl2⟩ := h
 refine wpList_plain hg fun K' hK' => ?_
 unfold Oper.wp
 rcases h.next law o.type with ⟨h0, hl0, hrun⟩ | ⟨key, v, kl, y, w', cnt', hkey, hlk, hv, hat, hrun, hrg, hlt, hgr, hsz, hen⟩
 ·simp [execOp, hop, hit, hrun, Result.andThen]
  exact hK' _ _ (hDone fun d hd => by rw [← hl1 d hd]; exact hl0 _)
 ·obtain ⟨d, hd, rfl⟩ := hl2 kl hlk
  obtain rfl := law.inj hkey (keyD (hD.1 d hd))
  obtain ⟨j, rfl, rfl, hwj⟩ := plainElem_int_inv ui hv
  have hj2 := hat (.lit (.int .i64 0))
  rw [(hD.2.2 d hd).2] at hj2
  simp only [DataW.lit.injEq, Lit.int.injEq, true_and] at hj2
  have hlf : left d = true := by rw [← hl1 d hd]; exact hlk
  have hrg2 : RgD w' b r E c (lessE left d) cnt' := ⟨n, D, _, hn, hrg, hD, fun z hz => by rw [hl1 z hz, same_kD (hD.1 z hz) (hD.1 d hd)]; rfl, fun kl' hk' => by
   rw [Bool.and_eq_true] at hk'
   exact hl2 kl' hk'.1⟩
  obtain ⟨x, y, s⟩ := d
  simp [execOp, hop, hit, hrun, Result.andThen]
  exact hK' _ _ (hMore x y (.bool s) j w' ⟨s, cnt', rfl, hrg2, ⟨hj2.symm, hlt⟩, hd, hlf⟩ hgr hen)
theorem run_makeMapD {w : World} : (Instr.makeMap 90 none).run Try.prog w = .ok (.map (some w.heap.size)) (w.alloc (.map #[] 0)) := by
 simp [Instr.makeMap, run_underlying ut, Result.andThen]
end Go.Proofs.Ytjfagpmklifjlaa.Frd

namespace Go.Proofs.Ytjfagpmklifjlaa.Til
set_option linter.unusedVariables false
set_option linter.unusedSimpArgs false
open Go.RowKit Go.Proofs.Ytjfagpmklifjlaa.Cell Go.Proofs.Ytjfagpmklifjlaa.Dom Go.Proofs.Ytjfagpmklifjlaa.Dms Go.Joins

def Bc (w : World) (x y : Int) (W : World) : Prop := Below w.heap.size w W ∧ At2 W w.heap.size x y
theorem bc_start (x y : Int) (w : World) : Bc w x y (w.alloc (.cells #[.int .i64 x, .int .i64 y] 38)) := ⟨below_alloc1 w _, At2.new w x y⟩
theorem Bc.on {w W W' : World} {x y : Int} (h : Bc w x y W) (hb : Below W.heap.size W W') : Bc w x y W' := ⟨h.1.trans (hb.mono h.1.size), h.2.on hb⟩
def Miss (L : List Dm) (x y : Int) (k : Nat) : Prop := ∀ j e, j < k → L[j]? = some e → covM e x y = false
theorem Miss.zero (L : List Dm) (x y : Int) : Miss L x y 0 := fun j e h => by omega
theorem Miss.succ {L : List Dm} {x y : Int} {k : Nat} (h : Miss L x y k) {d : Dm} (hd : L[k]? = some d) (hc : covM d x y = false) : Miss L x y (k + 1) := by
 intro j e hj he
 by_cases hjk : j = k
 ·subst hjk; rw [hd] at he; injection he with he; subst he; exact hc
 ·exact h j e (by omega) he
theorem Miss.hit {L : List Dm} {x y : Int} {k : Nat} (h : Miss L x y k) {d : Dm} (hd : L[k]? = some d) (hc : covM d x y = true) : atI L x y = (k : Int) := atI_hit h hd hc
theorem Miss.all {L : List Dm} {x y : Int} (h : Miss L x y L.length) : atI L x y = -1 := atI_miss h

set_option maxRecDepth 100000 in
set_option maxHeartbeats 1000000 in
theorem iDominoAt (w : World) (A : Option Addr) (n cap B : Nat) (L : List Dm) (hL : L.length = n) (hn : (n : Int) ≤ 9223372036854775807) (hf : Fits L) (h : RowM w B A L) (hB : B ≤ w.heap.size) (x y : Int) :
  Calls Try.prog 81 #[.slice A n cap, .agg #[.int .i64 x, .int .i64 y]] w (Num (atI L x y) w) := by
 obtain ⟨b0, off, h1, h2⟩ := h.at
 have HA := Lib.hid (fun hp => h1 hp)
 have HC := Lib.hid h2
 have HL := Lib.hid hL
 have HF := Lib.hid hf
 have HB := Lib.hid hB
 have HS := Lib.hid (bc_start x y w)
 clear h h1 h2 hL hf hB
 go_enter Try.func81, Try.ntmps81
 go_wp2_with fail
 go_loopw [9] (fun i wr => ∃ j : Nat, j ≤ n ∧ i = .int .i64 j ∧ Bc w x y wr ∧ Hid (Miss L x y j)) (fun i _ => n - (intOf i).toNat)
 case atStart => exact ⟨0, Nat.zero_le _, rfl, HS.out, Lib.hid (Miss.zero _ _ _)⟩
 case round =>
  clear HS
  obtain ⟨j, hj, rfl, hT, hM⟩ := hrel
  have hbs := hT.1.size
  by_cases hlt : j < n
  ·have hjL : j < L.length := by have := HL.out; omega
   obtain ⟨rfl, hbB⟩ := HA.out (by omega)
   obtain ⟨c0, c1, c2⟩ := HC.out j hjL
   have hbw : b0 < w.heap.size := by have := HB.out; omega
   have c0 := (hT.1.cell (p := ⟨b0, off + j * 3, none⟩) hbw).trans c0
   have c1 := (hT.1.cell (p := ⟨b0, off + j * 3 + 1, none⟩) hbw).trans c1
   have c2 := (hT.1.cell (p := ⟨b0, off + j * 3 + 2, none⟩) hbw).trans c2
   obtain ⟨f1, f2⟩ := HF.out L[j] (List.getElem_mem hjL)
   have HD := Lib.hid (List.getElem?_eq_getElem (l := L) hjL)
   generalize L[j] = d at c0 c1 c2 f1 f2 HD
   obtain ⟨u, v, b⟩ := d
   simp only at c0 c1 c2 f1 f2
   have HO := Lib.hid (fun W => iDominoOk u v b f1 f2 W)
   have HV := Lib.hid (fun W => iCovers u v b f1 f2 x y W)
   have HK := Lib.hid (show covM (u, v, b) x y = (domB u v b && (eqB x y u v || eqB x y (sx u b) (sy v b))) from rfl)
   generalize domB u v b = p at HO HK
   generalize (eqB x y u v || eqB x y (sx u b) (sy v b)) = r at HV HK
   have HT := Lib.hid hT
   clear f1 f2 hT hbs
   go_wp2_with fail
   refine (HO.out _).mono ?_
   rintro e w1 ⟨rfl, hb1⟩
   obtain ⟨hbw1, K1⟩ := bx3 u v b wr w1 hb1
   have T1 := HT.out.on hbw1
   have k0 := K1.c0
   have k1 := K1.c1
   have k2 := K1.c2
   have k3 := T1.2.c0
   have k4 := T1.2.c1
   clear hb1 HO K1 HT hbw1
   cases p with
   | false =>
    have HM := Lib.hid (hM.out.succ HD.out (by rw [HK.out]; rfl))
    clear k0 k1 k2 k3 k4 HV HK hM HD
    go_wp2
    go_roundw
    case rel => exact ⟨j + 1, by omega, by go_num, T1, HM⟩
    case measure => (simp [intOf] <;> omega)
   | true =>
    go_wp2_with fail
    refine (HV.out _).mono ?_
    rintro e w2 ⟨rfl, hb2⟩
    have T2 := T1.on hb2
    clear k0 k1 k2 k3 k4 T1 hb2 HV
    cases r with
    | true =>
     have HE := Lib.hid (hM.out.hit HD.out (by rw [HK.out]; rfl))
     go_wp2
     go_ret
     rw [HE.out]
     exact ⟨rfl, T2.1⟩
    | false =>
     have HM := Lib.hid (hM.out.succ HD.out (by rw [HK.out]; rfl))
     clear HK hM HD
     go_wp2
     go_roundw
     case rel => exact ⟨j + 1, by omega, by go_num, T2, HM⟩
     case measure => (simp [intOf] <;> omega)
  ·obtain rfl : j = n := by omega
   have HE := Lib.hid (show atI L x y = -1 from Miss.all (by rw [HL.out]; exact hM.out))
   go_wp2
   go_ret
   rw [HE.out]
   exact ⟨rfl, hT.1⟩
end Go.Proofs.Ytjfagpmklifjlaa.Til

namespace Go.Proofs.Ytjfagpmklifjlaa.Reg
open Go.ChangeShapes Go.WideShapes Go.ChangeAt Go.RowKit Go.Joins
set_option linter.unusedVariables false

theorem array1 {α : Type} {cs : Array α} (h : cs.size = 1) : ∃ c0, cs = #[c0] := by
 obtain ⟨l⟩ := cs
 match l, h with
 | [c0], _ => exact ⟨c0, rfl⟩
theorem add_none (b o j : Nat) : (⟨b, o, none⟩ : Addr).add j = ⟨b, o + j, none⟩ := by unfold Addr.add; split <;> simp_all

theorem open_reg {H : Type} {enc : TypeId × Value → H} {P : Program} {W : World} {held : Bool} {r : Reach} {b0 : Nat} {t e : TypeId} {f0 : Field} {v : Value} {d : DataW H} {p : List MemPlace}
  (ht : P.underlying t = some (.struct #[f0])) (hC : P.cellsOf t = 1) (h0 : f0.offset = 0) (h1 : P.cellsOf f0.type = 1) (hs : P.underlying f0.type = some (.slice e)) (he : P.underlying e = some (.int .i64)) (hc : P.cellsOf e = 1)
  (hv : Value.okWide P W r b0 t v) (h : DataW.Trod enc P W 0 (fun _ => true) held t v d p) :
  ∃ (A : Option Addr) (n cap : Nat) (xs : List Int), v = .agg #[.slice A n cap] ∧ xs.length = n ∧ (n : Int) ≤ 9223372036854775807 ∧ RowB W W.heap.size A xs := by
 obtain ⟨cs, rfl, hsz⟩ := okWide_struct ht hv
 obtain ⟨c0, rfl⟩ := array1 (hsz.trans hC)
 obtain ⟨fuel, hf⟩ := h
 obtain ⟨y0, n, hx, _, hy⟩ := trod_struct1 ht hf
 rw [h0, h1] at hy
 have hy' : DataW.trod enc P W 0 (fun _ => true) held n f0.type [c0] = some y0 := by simpa [Value.cells] using hy
 rcases open_ints hs he hc hy' with ⟨hcs, _⟩ | ⟨a, len, cap, zs, hcs, _, hl, hm, hz, _, hcell, _⟩
 ·simp only [List.cons.injEq, and_true] at hcs
  subst hcs
  exact ⟨none, 0, 0, [], rfl, rfl, by omega, 0, 0, fun h => by simp at h, fun j u hu => by simp at hu⟩
 ·simp only [List.cons.injEq, and_true] at hcs
  subst hcs
  simp only [if_true] at hz
  have hlen : (zs.take len).length = len := by rw [List.length_take]; omega
  refine ⟨some a, len, cap, zs.take len, rfl, hlen, by unfold maxLen at hm; omega, ?_⟩
  by_cases h00 : len = 0
  ·subst h00
   exact ⟨0, 0, fun h => by simp at h, fun j u hu => by simp at hu⟩
  ·obtain ⟨b, off, spot⟩ := a
   have hc0 := hcell 0 (by omega)
   have hsp : spot = none := by
    have h1 := World.cell?_spot hc0
    simpa [Addr.add] using h1
   subst hsp
   refine ⟨b, off, fun _ => ⟨rfl, ?_⟩, fun j x hx => ?_⟩
   ·rw [add_none] at hc0
    exact World.block_lt_of_cell? W _ hc0
   ·have hj : j < len := by
     have := (List.getElem?_eq_some_iff.1 hx).1
     omega
    have := hcell j (by omega)
    rw [add_none] at this
    rw [this]
    rw [List.getElem?_take, if_pos hj] at hx
    simp [List.getD, hx]
end Go.Proofs.Ytjfagpmklifjlaa.Reg

namespace Go.Proofs.Ytjfagpmklifjlaa.Til
set_option linter.unusedVariables false
set_option linter.unusedSimpArgs false
open Go.RowKit Go.Proofs.Ytjfagpmklifjlaa.Base Go.Proofs.Ytjfagpmklifjlaa.Pure Go.Proofs.Ytjfagpmklifjlaa.Cels Go.Proofs.Ytjfagpmklifjlaa.Dom Go.Proofs.Ytjfagpmklifjlaa.Dms Go.Joins
open Go.Proofs.Ytjfagpmklifjlaa.Reg hiding Yes add_none

theorem unc_case (L : List Dm) (C : List (Int × Int)) {k : Nat} (hk : k < C.length) : (atI L C[k].1 C[k].2 < 0 ∧ unc L (C.take (k + 1)) = unc L (C.take k) ++ [C[k]]) ∨ (¬ atI L C[k].1 C[k].2 < 0 ∧ unc L (C.take (k + 1)) = unc L (C.take k)) := by
  have h := atI_neg (L := L) (x := C[k].1) (y := C[k].2)
  cases ha : anyM L C[k].1 C[k].2 with
  | false => rw [ha] at h; exact .inl ⟨by simpa using h, unc_yes hk ha⟩
  | true => rw [ha] at h; exact .inr ⟨by simpa using h, unc_no hk ha⟩
def RdC (W : World) (b off : Nat) (C : List (Int × Int)) : Prop :=
  (0 < C.length → b < W.heap.size) ∧ ∀ j p, C[j]? = some p → W.cell? ⟨b, off + j * 2, none⟩ = some (.int .i64 p.1) ∧ W.cell? ⟨b, off + j * 2 + 1, none⟩ = some (.int .i64 p.2)
theorem RdC.same {W W' : World} {b off : Nat} {C : List (Int × Int)} (h : RdC W b off C) (hz : W.heap.size ≤ W'.heap.size) (hb : 0 < C.length → W'.heap[b]? = W.heap[b]?) : RdC W' b off C := by
  refine ⟨fun h0 => Nat.lt_of_lt_of_le (h.1 h0) hz, fun j p hp => ?_⟩
  have h0 : 0 < C.length := by have := (List.getElem?_eq_some_iff.1 hp).1; omega
  obtain ⟨a, c⟩ := h.2 j p hp
  exact ⟨(World.cell?_of_block (a := ⟨b, off + j * 2, none⟩) (hb h0)).trans a, (World.cell?_of_block (a := ⟨b, off + j * 2 + 1, none⟩) (hb h0)).trans c⟩
theorem RdC.on {W W' : World} {b off : Nat} {C : List (Int × Int)} (h : RdC W b off C) (hb : Below W.heap.size W W') : RdC W' b off C := h.same hb.size fun h0 => hb.block b (h.1 h0)
theorem RdC.grown {W W' : World} {b off g : Nat} {C : List (Int × Int)} (h : RdC W b off C) (hg : W.grownBy W' (some g)) (hne : 0 < C.length → g ≠ b) : RdC W' b off C :=
  h.same hg.size fun h0 => hg.block b (h.1 h0) (by intro e; injection e with e; exact hne h0 e.symm)

set_option maxRecDepth 100000 in
set_option maxHeartbeats 2000000 in
theorem iUncoveredOf (w : World) (A : Option Addr) (n cap B : Nat) (xs : List Int) (hx : xs.length = n) (hn : (n : Int) ≤ 9223372036854775807) (h : RowB w B A xs) (hB : B ≤ w.heap.size)
    (A' : Option Addr) (n' cap' B' : Nat) (L : List Dm) (hL : L.length = n') (hn' : (n' : Int) ≤ 9223372036854775807) (hf : Fits L) (h' : RowM w B' A' L) (hB' : B' ≤ w.heap.size) :
    Calls Try.prog 47 #[.agg #[.slice A n cap], .slice A' n' cap'] w (NbPost (unc L (cellsR xs)) w) := by
  obtain ⟨i0, hi, hz0, hz1, hz2⟩ := info_parts cellInfo
  have HC := Lib.hid (fun W (hb : Below w.heap.size w W) => iCellsOf W A n cap B xs hx hn (h.below hb hB) (by have := hb.size; omega))
  have HA := Lib.hid (fun W (hb : Below w.heap.size w W) x y => iDominoAt W A' n' cap' B' L hL hn' hf (h'.below hb hB') (by have := hb.size; omega) x y)
  have HS := Lib.hid (fun (o : Obj) => below_alloc1 w o)
  have HLC := cellsR_length xs
  generalize cellsR xs = C at HC HLC ⊢
  have HU := Lib.hid (fun k (hk : k < C.length) => unc_case L C hk)
  have HUL := Lib.hid (fun k => unc_length L (C.take k))
  clear hx hn h hB hL hn' hf h' hB'
  go_enter Try.func47, Try.ntmps47
  go_wp2_with fail
  refine (HC.out _ (HS.out _)).mono ?_
  rintro e w1 ⟨A1, cap1, rfl, hown1, hb1⟩
  have hbw1 := (HS.out _).trans (hb1.mono (HS.out _).size)
  obtain ⟨b, off, hA1, hR1⟩ := rowC_own hown1
  have R1 : RdC w1 b off C := ⟨fun h0 => (hA1 h0).2, hR1⟩
  have HA1 := Lib.hid (fun h0 => (hA1 h0).1)
  have HNil := Lib.hid (World.ownsRow_nil w1 w1.heap.size 38 2)
  clear HC HS hown1 hb1 hA1 hR1
  go_wp2_with fail
  go_loopw [5, 11] (fun v i wr => ∃ j : Nat, j ≤ C.length ∧ i = .int .i64 j ∧ wr.ownsRow w1.heap.size 38 2 v (unc L (C.take j)).length (rowC (unc L (C.take j))) ∧ Below w1.heap.size w1 wr) (fun _ i _ => C.length - (intOf i).toNat)
  case atStart => exact ⟨0, Nat.zero_le _, rfl, by simpa [unc, rowC] using HNil.out, Below.refl _ _⟩
  case round =>
    clear HNil
    obtain ⟨j, hj, rfl, hown, hb⟩ := hrel
    have hbs := hb.size
    by_cases hlt : j < C.length
    · obtain rfl := HA1.out (by omega)
      have hbb : b < w1.heap.size := R1.1 (by omega)
      obtain ⟨c0, c1⟩ := R1.2 j C[j] (List.getElem?_eq_getElem hlt)
      have c0 := (hb.cell (p := ⟨b, off + j * 2, none⟩) hbb).trans c0
      have c1 := (hb.cell (p := ⟨b, off + j * 2 + 1, none⟩) hbb).trans c1
      have HCs := Lib.hid (HU.out j hlt)
      generalize C[j] = c at c0 c1 HCs
      obtain ⟨x, y⟩ := c
      simp only at c0 c1
      have HQ := Lib.hid (fun W (hb : Below w.heap.size w W) => HA.out W hb x y)
      generalize atI L x y = q at HQ HCs
      have hbw := hbw1.trans (hb.mono hbw1.size)
      have hLn := HUL.out j
      have HOwn := Lib.hid hown
      clear hown
      have hj64 : (unc L (C.take j)).length ≤ 64 := by have : (C.take j).length ≤ C.length := by rw [List.length_take]; omega
                                                       omega
      generalize hU : unc L (C.take j) = U at HOwn HCs hj64
      clear hLn hU
      go_wp2_with fail
      refine (HQ.out _ (hbw.alloc hbw.size _)).mono ?_
      rintro e w2 ⟨rfl, hb2⟩
      have k1 : At2 w2 wr.heap.size x y := (At2.new wr x y).on hb2
      have hE : Below wr.heap.size wr w2 := (below_alloc1 wr _).trans (hb2.mono (by simp))
      have HOwn2 := Lib.hid (Reg.own_below HOwn.out hE (Nat.le_refl _))
      have hB2 := hb.trans (hE.mono hbs)
      have hs2 := hE.size
      have d0 := k1.c0
      have d1 := k1.c1
      clear c0 c1 k1 hE hb2 HOwn HQ hbw hb
      rcases HCs.out with ⟨hq, hN⟩ | ⟨hq, hN⟩
      · have HN := Lib.hid hN
        clear hN HCs
        go_wp2_with (first
          | (at_builtin; refine wpList_append_own _ rfl _ _ 34 rfl w1.heap.size 38 i0 (.agg #[.int .i64 0, .int .i64 0]) 2 16 Try.underlying34 hi hz0 hz1 hz2 rfl (by decide) _ U.length (rowC U) rfl (HOwn2.out.alloc _) ⟨w2.heap.size, 0, none⟩ 1 1 [.int .i64 x, .int .i64 y] rfl rfl (World.news_of_block (cs := #[.int .i64 x, .int .i64 y]) (t := 38) (fr := (0, 0)) (heap_alloc_new w2 _)) (by simp [Value.oneCell']) (by unfold maxLen; omega) (by omega) (by simp; omega) ?_; intro v2 w3 hown3 hgrow _))
        have hb3 : Below w1.heap.size w1 w3 := (hB2.alloc (by omega) _).grown hgrow (by simp; omega) (fun g hg => (HOwn2.out.lt g hg).1)
        have R := Lib.hid (show w3.ownsRow w1.heap.size 38 2 v2 (U ++ [(x, y)]).length (rowC (U ++ [(x, y)])) by
          rw [rowC_snoc, List.length_append]; exact hown3)
        clear hown3 hgrow
        go_wp2
        go_roundw
        case rel => exact ⟨j + 1, by omega, by go_num, by rw [HN.out]; exact R.out, hb3⟩
        case measure => (simp [intOf] <;> omega)
      · have HN := Lib.hid hN
        clear hN HCs
        go_wp2
        go_roundw
        case rel => exact ⟨j + 1, by omega, by go_num, by rw [HN.out]; exact HOwn2.out, hB2⟩
        case measure => (simp [intOf] <;> omega)
    · obtain rfl : j = C.length := by omega
      obtain ⟨A2, cap2, rfl⟩ := own_shape hown
      have hEnd := hbw1.trans (hb.mono hbw1.size)
      have HOwn := Lib.hid hown
      clear hown hb
      go_wp2
      go_ret
      rw [List.take_length] at HOwn
      have hz := hbw1.size
      rw [List.take_length]
      exact ⟨A2, cap2, rfl, Reg.own_base HOwn.out (by omega), hEnd⟩
end Go.Proofs.Ytjfagpmklifjlaa.Til

namespace Go.Proofs.Ytjfagpmklifjlaa.Til
set_option linter.unusedVariables false
set_option linter.unusedSimpArgs false
open Go.RowKit Go.Proofs.Ytjfagpmklifjlaa.Dom Go.Proofs.Ytjfagpmklifjlaa.Dms Go.Joins
open Go.Proofs.Ytjfagpmklifjlaa.Reg hiding Yes add_none

def Rg (W : World) (q : Nat) (v : Value) : Prop := W.heap[q]? = some (.cells #[v] 26)
theorem Rg.on {W W' : World} {q : Nat} {v : Value} (h : Rg W q v) (hb : Below W.heap.size W W') : Rg W' q v := (hb.block q (Array.getElem?_eq_some_iff.1 h).1).trans h
theorem Rg.c0 {W : World} {q : Nat} {v : Value} (h : Rg W q v) : W.cell? ⟨q, 0, none⟩ = some v := (cell_of_row _ _ 0 _ _ _ h).trans rfl
theorem Rg.lt {W : World} {q : Nat} {v : Value} (h : Rg W q v) : q < W.heap.size := (Array.getElem?_eq_some_iff.1 h).1
theorem Rg.new (W : World) (v : Value) : Rg (W.alloc (.cells #[v] 26)) W.heap.size v := heap_alloc_new W _
def RC (w : World) (v : Value) (x y : Int) (W : World) : Prop := Below w.heap.size w W ∧ Rg W w.heap.size v ∧ At2 W (w.heap.size + 1) x y
def RD (w : World) (v : Value) (x y : Int) (b : Bool) (W : World) : Prop := Below w.heap.size w W ∧ Rg W w.heap.size v ∧ At3 41 W (w.heap.size + 1) x y b
theorem rc_start (w : World) (v : Value) (x y : Int) : RC w v x y ((w.alloc (.cells #[v] 26)).alloc (.cells #[.int .i64 x, .int .i64 y] 38)) := by
 have h1 := Rg.new w v
 have hb := below_alloc1 w (.cells #[v] 26)
 have hz : (w.alloc (.cells #[v] 26)).heap.size = w.heap.size + 1 := by simp
 generalize w.alloc (.cells #[v] 26) = W at h1 hb hz ⊢
 have h2 := At2.new W x y
 rw [hz] at h2
 exact ⟨hb.alloc hb.size _, h1.on (below_alloc1 W _), h2⟩
theorem rd_start (w : World) (v : Value) (x y : Int) (b : Bool) : RD w v x y b ((w.alloc (.cells #[v] 26)).alloc (.cells #[.int .i64 x, .int .i64 y, .bool b] 41)) := by
 have h1 := Rg.new w v
 have hb := below_alloc1 w (.cells #[v] 26)
 have hz : (w.alloc (.cells #[v] 26)).heap.size = w.heap.size + 1 := by simp
 generalize w.alloc (.cells #[v] 26) = W at h1 hb hz ⊢
 have h2 := At3.new 41 W x y b
 rw [hz] at h2
 exact ⟨hb.alloc hb.size _, h1.on (below_alloc1 W _), h2⟩
section
variable {w W W' : World} {v : Value} {x y : Int} {b : Bool}
theorem RC.on (h : RC w v x y W) (hb : Below W.heap.size W W') : RC w v x y W' := ⟨h.1.trans (hb.mono h.1.size), h.2.1.on hb, h.2.2.on hb⟩
theorem RD.on (h : RD w v x y b W) (hb : Below W.heap.size W W') : RD w v x y b W' := ⟨h.1.trans (hb.mono h.1.size), h.2.1.on hb, h.2.2.on hb⟩
end
theorem RowM.take {w : World} {B : Nat} {A : Option Addr} {L : List Dm} (h : RowM w B A L) (k : Nat) : RowM w B A (L.take k) := by
 obtain ⟨b, off, h1, h2⟩ := h
 refine ⟨b, off, fun h0 => h1 (by rw [List.length_take] at h0; omega), fun j d hd => h2 j d ?_⟩
 rw [List.getElem?_take] at hd
 split at hd
 ·exact hd
 ·cases hd
end Go.Proofs.Ytjfagpmklifjlaa.Til
