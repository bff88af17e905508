/- MapK, CntM in one text. -/
import Derived.Test.YtjfagpmklifjlaaMg00
import Derived.Test.YtjfagpmklifjlaaMg09
import Derived.Test.YtjfagpmklifjlaaChecked
import Derived.Maps.RangeWalk
import Derived.Maps.OwnOps
import Derived.DeepKeys4
import Derived.WideKeyEntry
import Derived.Test.YtjfagpmklifjlaaMg04
import Derived.Test.YtjfagpmklifjlaaMg06

namespace Go.Proofs.Ytjfagpmklifjlaa.Prof
set_option linter.unusedVariables false
set_option linter.unusedSimpArgs false
set_option maxRecDepth 100000
open Go.RowKit Go.Proofs.Ytjfagpmklifjlaa.Cnt
open Go.Maps (Keyed)
open Go.ChangeMaps Go.MapKept
open Go.WideElems (Fit rd rg pl rd_key rd_val rg_of rd_mk findIdx_born findIdx_arr modify_last set_self)

theorem laidOut : laidOutB Try.prog = true := by kernel_rfl
theorem rowK : (96 : TypeId) < Try.prog.types.size := of_decide_eq_true (by kernel_rfl)
theorem deepK : Try.prog.keyTypeAt (Try.prog.types.size + 1) 96 = true := by kernel_rfl
theorem wideK : (match Try.prog.underlying 96 with | some (.array _ _) | some (.struct _) => true | _ => false) = true := by kernel_rfl
theorem lawK : WideMaps.KeyLaw Try.prog 96 := deep_law_laid laidOut (m := 2) (by omega) rowK (by kernel_rfl) wideK
theorem law : Keyed Try.prog 96 := Keyed.of_law lawK
theorem ut : Try.prog.underlying 93 = some (.map 96 3) := by kernel_rfl
theorem ui : Try.prog.underlying 3 = some (.int .i64) := by kernel_rfl
theorem zeroE (w : World) : (zeroValue 3).run Try.prog w = .ok (.int .i64 0) w := by kernel_rfl

noncomputable def fsK : Array Field := match Try.prog.underlying 96 with | some (.struct fs) => fs | _ => #[]
theorem uk : Try.prog.underlying 96 = some (.struct fsK) := by kernel_rfl
theorem fsK_is : fsK.toList.map (fun f => (f.name != "_", f.type, f.offset)) = [(true, 3, 0), (true, 3, 1)] := by kernel_rfl
def k2 (a b : Int) : Lit := .string (keyBytes [.int .i64 a, .int .i64 b])
theorem key2 {a b : Int} (ha : (Lit.int .i64 a).wf = true) (hb : (Lit.int .i64 b).wf = true) : keyOf Try.prog 96 (.agg #[.int .i64 a, .int .i64 b]) = some (k2 a b) := by
 have hu := uk
 have hf := fsK_is
 generalize fsK = fs at hu hf
 have hc : Try.prog.cellsOf 96 = 2 := by kernel_rfl
 have hi : Try.prog.cellsOf 3 = 1 := by kernel_rfl
 have ht : Try.prog.keyType 96 = true := deepK
 have hsz : ∃ n, Try.prog.types.size + 1 = n + 1 + 1 := ⟨Try.prog.types.size - 1, by have : 0 < Try.prog.types.size := Nat.lt_of_le_of_lt (Nat.zero_le _) rowK; omega⟩
 obtain ⟨n, hn⟩ := hsz
 have he : ∀ c : Int, (Lit.int .i64 c).wf = true → Try.prog.keyLits (n + 1) 3 [.int .i64 c] = some [.int .i64 c] := fun c hw => by
  unfold Program.keyLits
  rw [ui]; simp [hw]
 have hkl : Try.prog.keyLits (n + 1 + 1) 96 [.int .i64 a, .int .i64 b] = some [.int .i64 a, .int .i64 b] := by
  rw [Program.keyLits.eq_def]
  simp only [hu, hc]
  have hall : fs.all (fun f => f.name != "_") = true := by
   rw [← Array.all_toList]
   have : (fs.toList.map (fun f => (f.name != "_", f.type, f.offset))).all (fun p => p.1) = true := by rw [hf]; rfl
   simpa [List.all_map, Function.comp_def] using this
  rw [if_pos ⟨rfl, hall⟩]
  have hm : (fs.toList.mapM fun f => Try.prog.keyLits (n + 1) f.type (([Value.int .i64 a, Value.int .i64 b].drop f.offset).take (Try.prog.cellsOf f.type))) = ((fs.toList.map (fun f => (f.name != "_", f.type, f.offset))).mapM fun p => Try.prog.keyLits (n + 1) p.2.1 (([Value.int .i64 a, Value.int .i64 b].drop p.2.2).take (Try.prog.cellsOf p.2.1))) := by
   rw [List.mapM_map]; rfl
  rw [hm, hf]
  simp [hi, he a ha, he b hb]
 have hform : (Value.agg #[.int .i64 a, .int .i64 b]).formed Try.prog 96 = true := by
  simp [Value.formed, hu, hc]
 unfold keyOf
 rw [hu]
 simp only [ht, hform, hn, Bool.and_true, if_true]
 show Option.map _ (Try.prog.keyLits (n + 1 + 1) 96 [.int .i64 a, .int .i64 b]) = _
 rw [hkl]; rfl
theorem k2_inj {a b c d : Int} (ha : (Lit.int .i64 a).wf = true) (hb : (Lit.int .i64 b).wf = true) (hc : (Lit.int .i64 c).wf = true) (hd : (Lit.int .i64 d).wf = true) (h : k2 a b = k2 c d) : a = c ∧ b = d := by
 have h1 := key2 ha hb
 rw [h] at h1
 have := law.inj h1 (key2 hc hd)
 simpa using this
theorem wf_nat {n : Nat} (h : n < 1000000) : (Lit.int .i64 (n : Int)).wf = true := WalkArith.wf_i64 (by omega)
def kI (i : Nat) : Lit := k2 ((i % 256 : Nat) : Int) ((i / 256 : Nat) : Int)
theorem keyI {i : Nat} (hi : i < 20000) : keyOf Try.prog 96 (.agg #[.int .i64 ((i % 256 : Nat) : Int), .int .i64 ((i / 256 : Nat) : Int)]) = some (kI i) := key2 (wf_nat (by omega)) (wf_nat (by omega))
theorem kI_key {i : Nat} (hi : i < 20000) : WideAt.IsKeyLit (kI i) := law.key (keyI hi)
theorem kI_inj {i j : Nat} (hi : i < 20000) (hj : j < 20000) (h : kI i = kI j) : i = j := by
 obtain ⟨h1, h2⟩ := k2_inj (wf_nat (by omega)) (wf_nat (by omega)) (wf_nat (by omega)) (wf_nat (by omega)) h
 omega
theorem same_kI {i j : Nat} (hi : i < 20000) (hj : j < 20000) : (kI i).sameKey (kI j) = decide (i = j) := by
 by_cases h : i = j
 ·subst h; rw [WideAt.sameKey_self (kI_key hi)]; simp
 ·rw [Maps.sameKey_ne (fun e => h (kI_inj hi hj e))]; simp [h]

def num (d : DataW Unit) : Int := match d with | .lit (.int .i64 c) => c | _ => 0
def at2 (D : DataW Unit) (kl : Lit) : Int := num (D.atKey kl (.lit (.int .i64 0)))
def vw (D : DataW Unit) (i : Nat) : Int := at2 D (kI i)
theorem at2_of {D : DataW Unit} {kl : Lit} {c : Int} (h : D.atKey kl (.lit (.int .i64 0)) = .lit (.int .i64 c)) : at2 D kl = c := by unfold at2; rw [h]; rfl
theorem vw_put {D : DataW Unit} (hD : Maps.IsMap D) {t : Nat} (ht : t < 20000) (c : Int) {i : Nat} (hi : i < 20000) : vw (D.put (kI t) (.lit (.int .i64 c))) i = upd (vw D) t c i := by
 by_cases e : i = t
 ·subst e
  rw [upd_at]; unfold vw at2
  rw [Maps.atKey_put_same hD (kI_key ht)]; rfl
 ·rw [upd_ne e]; unfold vw at2
  rw [Maps.atKey_put_other (fun q => e (kI_inj hi ht q))]
theorem at2_not {D : DataW Unit} {kl : Lit} (h : Maps.has D kl = false) : at2 D kl = 0 := by unfold at2; rw [Maps.atKey_of_not_has h]; rfl
def KD (D : DataW Unit) (g : Nat → Bool) (k q : Nat) : Prop := ∀ kl, Maps.has D kl = true → ∃ i, i < 256 * (q + 1) ∧ kl = kI i ∧ Vd g k (i % 256)
theorem KD.put {D : DataW Unit} {g : Nat → Bool} {k q t : Nat} (h : KD D g k q) (hD : Maps.IsMap D) (ht : t < 256 * (q + 1)) (hv : Vd g k (t % 256)) (d : DataW Unit) : KD (D.put (kI t) d) g k q := fun kl hk => by
 by_cases e : kl = kI t
 ·exact ⟨t, ht, e, hv⟩
 ·rw [Maps.has_put_other e] at hk; exact h kl hk
theorem KD.none {g : Nat → Bool} {k q : Nat} : KD (.map []) g k q := fun kl h => by cases h
theorem vw_none (i : Nat) : vw (.map []) i = 0 := rfl

theorem nodup_len : ∀ (n : Nat) (l : List Nat), l.Nodup → (∀ x ∈ l, x < n) → l.length ≤ n
 | 0, l, _, h => by
  cases l with
  | nil => simp
  | cons x r => exact absurd (h x (by simp)) (by omega)
 | n + 1, l, hn, h => by
  by_cases hm : n ∈ l
  ·have h1 := nodup_len n (l.erase n) (hn.erase n) (fun x hx => by
    have h2 := h x (List.mem_of_mem_erase hx)
    have : x ≠ n := fun e => by
     subst e
     exact (List.Nodup.not_mem_erase hn) hx
    omega)
   rw [List.length_erase_of_mem hm] at h1; omega
  ·have := nodup_len n l hn (fun x hx => by
    have h2 := h x hx
    have : x ≠ n := fun e => hm (e ▸ hx)
    omega)
   omega
theorem index_list : ∀ (l : List (Lit × DataW Unit)) (n : Nat), l.Pairwise (fun p q => p.1 ≠ q.1) → (∀ p ∈ l, ∃ i, i < n ∧ p.1 = kI i) → ∃ m : List Nat, m.length = l.length ∧ m.Nodup ∧ (∀ x ∈ m, x < n) ∧ ∀ x ∈ m, ∃ p ∈ l, p.1 = kI x
 | [], n, _, _ => ⟨[], rfl, List.nodup_nil, by simp, by simp⟩
 | p :: r, n, hp, h => by
  obtain ⟨h1, h2⟩ := List.pairwise_cons.1 hp
  obtain ⟨m, m1, m2, m3, m4⟩ := index_list r n h2 (fun q hq => h q (by simp [hq]))
  obtain ⟨i, hi, e⟩ := h p (by simp)
  refine ⟨i :: m, by simp [m1], List.nodup_cons.2 ⟨fun hm => ?_, m2⟩, fun x hx => ?_, fun x hx => ?_⟩
  ·obtain ⟨q, hq, eq⟩ := m4 i hm
   exact h1 q hq (e.trans eq.symm)
  ·rcases List.mem_cons.1 hx with rfl | hx
   ·exact hi
   ·exact m3 x hx
  ·rcases List.mem_cons.1 hx with rfl | hx
   ·exact ⟨p, by simp, e⟩
   ·obtain ⟨q, hq, eq⟩ := m4 x hx
    exact ⟨q, by simp [hq], eq⟩
noncomputable abbrev RE : Value → Option (DataW Unit × List MemPlace) := plainElem (H := Unit) Try.prog 3
def Own (w : World) (b : Nat) (D : DataW Unit) : Prop := w.ownsMap Try.prog 96 RE b 20000 D
theorem own_bound {w : World} {b n q k : Nat} {g : Nat → Bool} {D : DataW Unit} (h : w.ownsMap Try.prog 96 RE b n D) (hk : KD D g k q) (hq : q ≤ 65) : Own w b D := by
 obtain ⟨es0, hD0, hp, hkeys⟩ := h.entries law
 have hlen : es0.length ≤ 20000 := by
  obtain ⟨m, m1, m2, m3, _⟩ := index_list es0 20000 hp (fun p hp' => by
   obtain ⟨i, hi, e, _⟩ := hk p.1 (by rw [hD0]; exact List.any_eq_true.2 ⟨p, hp', WideAt.sameKey_self (hkeys p hp')⟩)
   exact ⟨i, by omega, e⟩)
  rw [← m1]; exact nodup_len 20000 m m2 m3
 obtain ⟨es, clock, hb, F, hs, hD⟩ := h
 refine ⟨es, clock, hb, F, ?_, hD⟩
 rw [hD0] at hD
 cases hD
 rw [length_sorted] at hlen
 simpa using hlen
theorem Own.isMap {w : World} {b : Nat} {D : DataW Unit} (h : Own w b D) : Maps.IsMap D := by
 obtain ⟨es, clock, hb, F, hs, hD⟩ := h
 exact ⟨_, hD⟩
theorem Own.lt {w : World} {b : Nat} {D : DataW Unit} (h : Own w b D) : b < w.heap.size := World.ownsMap.lt h
theorem Own.on {w w' : World} {b : Nat} {D : DataW Unit} (h : Own w b D) (hb : Below w.heap.size w w') : Own w' b D := by
 have hlt := h.lt
 obtain ⟨es, clock, hb', F, hs, hD⟩ := h
 exact ⟨es, clock, (hb.block b hlt).trans hb', F, hs, hD⟩
theorem own_raise {w : World} {b : Nat} {D : DataW Unit} (h : Own w b D) {key : Value} {kl : Lit} (hkey : keyOf Try.prog 96 key = some kl) :
  ∃ (st : Nat) (w1 : World), (Lit.int .i64 (at2 D kl)).wf = true ∧ (Instr.lookup 93 (.map (some b)) key false).run Try.prog w = .ok (.int .i64 (at2 D kl)) w ∧
   (Instr.mapEntry 93 (.map (some b)) key).run Try.prog w = .ok (.tuple #[.int .i64 (at2 D kl), .int .i64 (st : Int)]) w1 ∧
   (Instr.lookup 93 (.map (some b)) key false).run Try.prog w1 = .ok (.int .i64 (at2 D kl)) w1 ∧ w.grownBy w1 (some b) ∧ w1.heap.size = w.heap.size ∧
   ∀ v : Int, (Lit.int .i64 v).wf = true → ∃ w2, (Instr.entryStore 93 (.map (some b)) (.int .i64 (st : Int)) (.int .i64 v)).run Try.prog w1 = .ok () w2 ∧
    w2.ownsMap Try.prog 96 RE b 20001 (D.put kl (.lit (.int .i64 v))) ∧ w.grownBy w2 (some b) ∧ w2.heap.size = w.heap.size := by
 obtain ⟨c, hl, hat, hwc⟩ := World.ownsMap.lookup_int h law ut ui (zeroE w) hkey
 have hc := at2_of hat
 subst hc
 have hD := h.isMap
 have hown := h
 obtain ⟨es, clock, hb, F, hs, rfl⟩ := h
 obtain ⟨s1, s2, _⟩ := F.stamped
 have hgr : ∀ o, w.grownBy (setBlock w b o) (some b) := fun o => ⟨rfl, rfl, rfl, by simp [setBlock], fun i _ hi => heap_setBlock_other hb _ (fun e => hi (by rw [e]))⟩
 have hsz : ∀ o, (setBlock w b o).heap.size = w.heap.size := fun o => by simp [setBlock]
 have hself : ∀ o o', setBlock (setBlock w b o) b o' = setBlock w b o' := fun o o' => by simp [setBlock]
 rcases lawK.find w hkey es.toList F.keys with ⟨h1, h2⟩ | ⟨j, e0, h1, h2, h3⟩
 ·have hup : ∀ v : Int, (Instr.mapUpdate 93 (.map (some b)) key (.int .i64 v)).run Try.prog w = .ok () (setBlock w b (.map (es.push ⟨key, .int .i64 v, clock⟩) (clock + 1))) := fun v => by
   simp [Instr.mapUpdate, run_underlying ut, MapKept.run_getObj_map hb, law.check w false hkey, h1, MapKept.run_setObj_map _ hb, Result.andThen, setBlock]
  have hz0 : at2 (.map ((es.toList.map (rg Try.prog 96 RE)).foldr DataW.insert [])) kl = 0 := by
   rcases Maps.fit_look false law ut (zeroE w) hb F hkey with ⟨_, _, hat'⟩ | ⟨e1, y, he1, hk1, _⟩
   ·unfold at2; rw [hat']; rfl
   ·exact absurd hk1 (h2 e1 he1)
  rw [hz0] at hl hwc ⊢
  obtain ⟨w1, hr1, ho1, hg1⟩ := World.ownsMap.update hown law ut (by unfold maxLen; omega) hkey (plainElem_int (H := Unit) ui (a := 0) hwc)
  rw [hup 0] at hr1
  injection hr1 with _ hw1
  obtain ⟨c1, hl1, hat1, _⟩ := World.ownsMap.lookup_int ho1 law ut ui (zeroE w1) hkey
  rw [Maps.atKey_put_same hD (law.key hkey)] at hat1
  injection hat1 with e1
  injection e1 with _ e1
  subst e1
  refine ⟨clock, w1, hwc, hl, ?_, hl1, hg1, by rw [← hw1]; exact hsz _, fun v hv => ?_⟩
  ·rw [← hw1]
   simp [Instr.mapEntry, run_underlying ut, MapKept.run_getObj_map hb, law.check w false hkey, h1, zeroE, MapKept.run_setObj_map _ hb, Result.andThen, setBlock, goInt]
  ·obtain ⟨w2, hr2, ho2, hg2⟩ := World.ownsMap.update hown law ut (by unfold maxLen; omega) hkey (plainElem_int (H := Unit) ui (a := v) hv)
   rw [hup v] at hr2
   injection hr2 with _ hw2
   refine ⟨w2, ?_, ho2, hg2, by rw [← hw2]; exact hsz _⟩
   have hb1 : w1.heap[b]? = some (.map (es.push ⟨key, .int .i64 0, clock⟩) (clock + 1)) := by rw [← hw1]; exact heap_setBlock_same hb _
   have hidx : (es.push ⟨key, .int .i64 0, clock⟩).findIdx? (fun e => ((e.born : Nat) : Int) == ((clock : Nat) : Int)) = some es.size := by
    rw [findIdx_arr]
    exact findIdx_born (l := (es.push ⟨key, .int .i64 0, clock⟩).toList) (j := es.size) (e0 := ⟨key, .int .i64 0, clock⟩) (by
     simp only [Array.toList_push, List.map_append, List.map_cons, List.map_nil]
     refine List.nodup_append.2 ⟨s2, by simp, fun a ha c hc e1 => ?_⟩
     simp only [List.mem_singleton] at hc
     obtain ⟨x, hx, rfl⟩ := List.mem_map.1 ha
     have := s1 x hx
     omega) (by simp)
   have hmod : (es.push ⟨key, .int .i64 0, clock⟩).modify es.size (fun e => { e with val := .int .i64 v }) = es.push ⟨key, .int .i64 v, clock⟩ := by
    apply Array.ext'
    rw [Array.toList_modify, Array.toList_push, Array.toList_push, ← Array.length_toList, modify_last]
   have : (Instr.entryStore 93 (.map (some b)) (.int .i64 (clock : Int)) (.int .i64 v)).run Try.prog w1 = .ok () (setBlock w1 b (.map (es.push ⟨key, .int .i64 v, clock⟩) (clock + 1))) := by
    simp [Instr.entryStore, MapKept.run_getObj_map hb1, asInt, asIntOf, hidx, hmod, MapKept.run_setObj_map _ hb1, Result.andThen, setBlock]
   rw [this, ← hw2, ← hw1, hself]
 ·have hj : es[j]? = some e0 := by simpa using h2
  have hsame : es.modify j (fun e => { e with key := key }) = es := by
   apply Array.ext'
   rw [Array.toList_modify, modify_eq_set _ _ _ _ h2]
   have : ({ e0 with key := key } : MapEntry) = e0 := by rw [← h3]
   rw [this]
   exact set_self _ _ _ h2
  have hv0 : e0.val = .int .i64 (at2 (.map ((es.toList.map (rg Try.prog 96 RE)).foldr DataW.insert [])) kl) := by
   have : (Instr.lookup 93 (.map (some b)) key false).run Try.prog w = .ok e0.val w := by
    simp [Instr.lookup, run_underlying ut, MapKept.run_getObj_map hb, law.check w _ hkey, h1, Result.andThen]
   rw [this] at hl
   injection hl
  generalize at2 (.map ((es.toList.map (rg Try.prog 96 RE)).foldr DataW.insert [])) kl = c0 at hl hat hwc hv0 ⊢
  have hb1 : (setBlock w b (.map es clock)).heap[b]? = some (.map es clock) := heap_setBlock_same hb _
  refine ⟨e0.born, setBlock w b (.map es clock), hwc, hl, ?_, ?_, hgr _, hsz _, fun v hv => ?_⟩
  ·simp [Instr.mapEntry, run_underlying ut, MapKept.run_getObj_map hb, law.check w false hkey, h1, hj, h3, law.stays w hkey, hsame, MapKept.run_setObj_map _ hb, Result.andThen, setBlock, goInt, hv0]
  ·obtain ⟨c1, hl1, hat1, _⟩ := World.ownsMap.lookup_int (n := 20000) (⟨es, clock, hb1, F, hs, rfl⟩ : World.ownsMap _ Try.prog 96 RE b 20000 _) law ut ui (zeroE _) hkey
   rw [hat] at hat1
   injection hat1 with e1
   injection e1 with _ e1
   rw [e1]; exact hl1
  ·have hup : (Instr.mapUpdate 93 (.map (some b)) key (.int .i64 v)).run Try.prog w = .ok () (setBlock w b (.map (es.modify j (fun e' => { e' with key := key, val := .int .i64 v })) clock)) := by
    simp [Instr.mapUpdate, run_underlying ut, MapKept.run_getObj_map hb, law.check w false hkey, h1, hj, h3, law.stays w hkey, MapKept.run_setObj_map _ hb, Result.andThen, setBlock]
   obtain ⟨w2, hr2, ho2, hg2⟩ := World.ownsMap.update hown law ut (by unfold maxLen; omega) hkey (plainElem_int (H := Unit) ui (a := v) hv)
   rw [hup] at hr2
   injection hr2 with _ hw2
   refine ⟨w2, ?_, ho2, hg2, by rw [← hw2]; exact hsz _⟩
   have hidx : es.findIdx? (fun e => ((e.born : Nat) : Int) == ((e0.born : Nat) : Int)) = some j := by
    rw [findIdx_arr]
    exact findIdx_born s2 h2
   have hmod : es.modify j (fun e => { e with val := .int .i64 v }) = es.modify j (fun e' => { e' with key := key, val := .int .i64 v }) := by
    apply Array.ext'
    rw [Array.toList_modify, Array.toList_modify, modify_eq_set _ _ _ _ h2, modify_eq_set _ _ _ _ h2, ← h3]
   have hst : ∀ W1 : World, W1.heap[b]? = some (.map es clock) → (Instr.entryStore 93 (.map (some b)) (.int .i64 (e0.born : Int)) (.int .i64 v)).run Try.prog W1 = .ok () (setBlock W1 b (.map (es.modify j (fun e' => { e' with key := key, val := .int .i64 v })) clock)) := fun W1 hb1 => by
    simp [Instr.entryStore, MapKept.run_getObj_map hb1, asInt, asIntOf, hidx, hmod, MapKept.run_setObj_map _ hb1, Result.andThen, setBlock]
   rw [hst _ hb1, ← hw2, hself]
end Go.Proofs.Ytjfagpmklifjlaa.Prof

namespace Go.Proofs.Ytjfagpmklifjlaa.Cnt
set_option linter.unusedVariables false
set_option linter.unusedSimpArgs false
open Go.RowKit Go.Proofs.Ytjfagpmklifjlaa.Pure Go.Joins

theorem state_table : ∀ s : Fin 256, ∀ x : Fin 8, bitB ((s.val : Nat) : Int) x.val = s.val.testBit x.val ∧ (s.val.testBit x.val = false → bits .or .i64 ((s.val : Nat) : Int) ((2 ^ x.val : Nat) : Int) = ((s.val + 2 ^ x.val : Nat) : Int)) ∧ (s.val.testBit x.val = true → 2 ^ x.val ≤ s.val) := by decide +kernel
theorem state_bit {s x : Nat} (hs : s < 256) (hx : x < 8) : bitB (s : Int) x = s.testBit x := (state_table ⟨s, hs⟩ ⟨x, hx⟩).1
theorem state_or {s x : Nat} (hs : s < 256) (hx : x < 8) (h : s.testBit x = false) : bits .or .i64 (s : Int) (2 ^ x) = ((s + 2 ^ x : Nat) : Int) := by
 have := (state_table ⟨s, hs⟩ ⟨x, hx⟩).2.1 h
 simpa using this
theorem state_sub {s x : Nat} (hs : s < 256) (hx : x < 8) (h : s.testBit x = true) : (s : Int) - 2 ^ x = ((s - 2 ^ x : Nat) : Int) := by
 have := (state_table ⟨s, hs⟩ ⟨x, hx⟩).2.2 h
 rw [Int.natCast_sub this]; simp
theorem state_shr0 {s x : Nat} (hs : s < 256) (hx : x < 8) (h : s.testBit x = false) : bits .and .i64 ((s : Int) / 2 ^ x) 1 = 0 := shr_no (by omega) (by omega) hx (by rw [state_bit hs hx]; exact h)
theorem state_shr1 {s x : Nat} (hs : s < 256) (hx : x < 8) (h : s.testBit x = true) : bits .and .i64 ((s : Int) / 2 ^ x) 1 = 1 := shr_yes (by omega) (by omega) hx (by rw [state_bit hs hx]; exact h)
end Go.Proofs.Ytjfagpmklifjlaa.Cnt
