/- Dst, WyD, WgS, JnE in one text. -/
import Derived.Test.YtmajllgfmclcoaaGreatDoorMd29
import Derived.Deep.LoopGhost
import Derived.Deep.RegionHeld3
import Derived.Deep.Cut
import Derived.Lib.Hide
import Derived.Lib.SmallJoins
import Derived.OwnWalk
import Derived.Laws.OwnMore
import Derived.Laws.AppendOwn
import Derived.Test.YtmajllgfmclcoaaGreatDoorMd27
import Derived.Test.YtmajllgfmclcoaaGreatDoorMd44
import Derived.Test.YtmajllgfmclcoaaGreatDoorMd40
import Derived.Test.YtmajllgfmclcoaaGreatDoorMd07
import Derived.Test.YtmajllgfmclcoaaGreatDoorMd21
set_option linter.unusedVariables false
set_option linter.unusedSimpArgs false
set_option maxRecDepth 100000
namespace Go.Proofs.YtmajllgfmclcoaaGreatDoor.Wg
open Go.RowKit Base Go.Joins
open Reg (own_below own_base intInfo)
structure Sd (w : World) (bd m : Nat) (D : Nat → Int) (Aq : Option Addr) (q : List Nat) (cq : Nat) (W : World) : Prop where
 bel : Below w.heap.size w W
 dr : NumR W w.heap.size bd m D
 qr : W.ownsRow (bd + 1) 3 1 (.slice Aq q.length cq) q.length (natV q)
theorem own_setCell {w : World} {base e size n : Nat} {v : Value} {xs : List Value} (h : w.ownsRow base e size v n xs) {p : Addr} (hp : p.block < base) (u : Value) : (w.setCell p u).ownsRow base e size v n xs :=
 h.kept (row := some p.block) ⟨rfl, rfl, rfl, by simp [World.setCell], fun j hj hne => Below.heap_setCell w _ u j (fun q => hne (by rw [q]))⟩ (by
  cases hv : v.ownBlock with
  | none => exact .inl rfl
  | some g => right; intro e; injection e with e; have := (h.lt g hv).1; omega)
theorem Sd.set {w W : World} {bd m : Nat} {D : Nat → Int} {Aq : Option Addr} {q : List Nat} {cq : Nat} (s : Sd w bd m D Aq q cq W) {v : Nat} (hv : v < m) (x : Int) : Sd w bd m (upd D v x) Aq q cq (W.setCell ⟨bd, v, none⟩ (.int .i64 x)) :=
 ⟨s.bel.setCell (p := ⟨bd, v, none⟩) s.dr.lt.1 _, s.dr.set hv x, own_setCell s.qr (by show bd < bd + 1; omega) _⟩
theorem Sd.drew {w W : World} {bd m : Nat} {D : Nat → Int} {Aq : Option Addr} {q : List Nat} {cq : Nat} (s : Sd w bd m D Aq q cq W) : Sd w bd m D Aq q cq W.drew := ⟨s.bel.drew, s.dr, s.qr⟩
theorem Sd.grow {w W w6 : World} {bd m : Nat} {D : Nat → Int} {gq : Nat} {q : List Nat} {cq nq : Nat} {y : Nat} {A6 : Option Addr} {c6 : Nat} {o : Obj} (s : Sd w bd m D (some ⟨gq, 0, none⟩) q cq W) (hn : q.length = nq)
  (ho : w6.ownsRow (bd + 1) 3 1 (.slice A6 (nq + 1) c6) (nq + 1) (natV q ++ [.int .i64 (y : Int)])) (hg : (W.alloc o).grownBy w6 (Value.slice (some ⟨gq, 0, none⟩) nq cq).ownBlock) : Sd w bd m D A6 (q ++ [y]) c6 w6 := by
 subst hn
 have hl := (s.qr.lt gq rfl).1
 have h1 := s.dr.lt
 have hbx := below_alloc1 W o
 refine ⟨((s.bel.trans (hbx.mono s.bel.size))).grown hg (by have := s.bel.size; have := hbx.size; omega) (fun g e => by have e2 : some gq = some g := e; injection e2 with e2; omega), (s.dr.on hbx).kept hg (fun g e => by have e2 : some gq = some g := e; injection e2 with e2; omega), ?_⟩
 rw [List.length_append, natV_snoc]
 exact ho
def DsP (ls : Nat → List Nat) (m st : Nat) (w : World) (e : Ending) (w' : World) : Prop :=
 ∃ (b : Nat) (D : Nat → Int), e = .returned (.slice (some ⟨b, 0, none⟩) m m) ∧ NumR w' w.heap.size b m D ∧ (∀ v, IsD (Ed ls) st v (D v)) ∧ (∀ v, D v ≤ (m : Int)) ∧ Below w.heap.size w w'
set_option maxHeartbeats 4000000 in
theorem sDistances (w : World) (A : Option Addr) (m cap B : Nat) (ls : Nat → List Nat) (hm : m ≤ 100000) (hr : RdL w B A m ls) (hB : B ≤ w.heap.size) (st : Nat) (hto : st < m) (hlt : ∀ u v, v ∈ ls u → v < m) (hln : ∀ u, (ls u).length ≤ 100000) :
  Calls Tryz.prog 36 #[.slice A m cap, .int .i64 (st : Int)] w (DsP ls m st w) := by
 obtain ⟨i0, hi, hz0, hz1, hz2⟩ := info_parts intInfo
 have HR := Lh (fun W (hb : Below w.heap.size w W) => hr.below hb hB)
 have HT := Lh hlt
 have HN := Lh hln
 clear hr hlt hln
 go_enter Tryz.func36, Tryz.ntmps36
 go_wp2_with (first | (at_make; refine wpList_make_full _ rfl _ _ 24 rfl w.heap.size 3 i0 (.int .i64 0) 1 Tryz.underlying24 hi hz0 hz1 .i64 .i64 (m : Int) (m : Int) m rfl rfl rfl rfl (by rw [hz2]; omega) (by unfold maxLen; omega) (by omega) ?_; intro w1 hown1 hg1))
 have hb1 : Below w.heap.size w w1 := (Below.refl _ _).grown hg1 (by omega) (by simp)
 have h0' := NumR.made hown1
 clear hown1 hg1
 obtain ⟨bd, hbd⟩ : ∃ bd, bd = w.heap.size := ⟨_, rfl⟩
 have H0 := Lh (show NumR w1 w.heap.size bd m (fun _ => 0) by rw [hbd]; exact h0')
 rw [← hbd]
 clear h0'
 have HBD := Lh hbd
 clear hbd
 go_loopw [6] (fun i wr => ∃ k : Nat, k ≤ m ∧ i = .int .i64 k ∧ NumR wr w.heap.size bd m (fun i => if i < k then -1 else 0) ∧ Below w.heap.size w wr) (fun i _ => m - (intOf i).toNat)
 case atStart => exact ⟨0, Nat.zero_le _, rfl, H0.out.same (fun i _ => by rw [if_neg (by omega)]), hb1⟩
 case round =>
  clear H0 hb1
  obtain ⟨k, hk, rfl, hn, hb⟩ := hrel
  by_cases hlt : k < m
  ·have hc := hn.cell hlt
   have hf := hn.froz k
   have hs := hn.set hlt (-1)
   have HS := Lh (show NumR (wr.setCell ⟨bd, k, none⟩ (.int .i64 (-1))) w.heap.size bd m (fun i => if i < k + 1 then -1 else 0) by
    refine hs.same fun i hi => ?_
    unfold upd
    by_cases e : i = k
    ·subst e; rw [if_pos rfl, if_pos (by omega)]
    ·rw [if_neg e]
     show (if i < k then (-1 : Int) else 0) = _
     by_cases h2 : i < k
     ·rw [if_pos h2, if_pos (by omega)]
     ·rw [if_neg h2, if_neg (by omega)])
   have HB := Lh (hb.setCell (p := ⟨bd, k, none⟩) hn.lt.1 (.int .i64 (-1)))
   have hkm : (k : Int) < (m : Int) := by omega
   clear hn hs hb
   go_wp2
   go_roundw
   case rel => exact ⟨k + 1, by omega, by go_num, HS.out, HB.out⟩
   case measure => (simp [intOf] <;> omega)
  ·obtain rfl : m = k := by omega
   have hs0 := hn.same (a' := fun _ => -1) (fun i hi => by rw [if_pos hi])
   obtain ⟨u0, hu0⟩ : ∃ u0, wr.cell? ⟨bd, st, none⟩ = some u0 := ⟨_, hs0.cell hto⟩
   have hf0 := hs0.froz st
   have HD0 := Lh (hs0.set hto 0)
   have HB0 := Lh (hb.setCell (p := ⟨bd, st, none⟩) hs0.lt.1 (.int .i64 0))
   have htoI : (st : Int) < (m : Int) := by omega
   clear hs0 hn hb
   go_upto_region 7 with fail
   generalize wr.setCell ⟨bd, st, none⟩ (.int .i64 0) = w2 at HD0 HB0 ⊢
   clear hu0 hf0
   have hbl := below_alloc1 w2 (.cells #[.int .i64 (st : Int)] 3)
   have hq0 := World.ownsRow_lit (base := bd + 1) (e := 3) (size := 1) w2 #[.int .i64 (st : Int)] 1 (by have := HD0.out.lt; omega) (by unfold maxLen; omega) rfl
   have HS0 := Lh (show Sd w bd m (upd (fun _ => -1) st 0) (some ⟨w2.heap.size, 0, none⟩) [st] 1 (w2.alloc (.cells #[.int .i64 (st : Int)] 3)) from ⟨HB0.out.trans (hbl.mono HB0.out.size), HD0.out.on hbl, hq0⟩)
   have HI0 := Lh (Bs.start (m := m) ls hto)
   clear hbl hq0 HD0 HB0
   go_wp2_with fail
   generalize w2.alloc (.cells #[.int .i64 (st : Int)] 3) = w3 at HS0 ⊢
   clear u0 htoI
   go_loopg [7, 8] (m + 1) (fun gg sq sk wr => ∃ (k : Nat) (D : Nat → Int) (q : List Nat) (Aq : Option Addr) (cq : Nat), k + gg = m + 1 ∧ k ≤ q.length ∧ sk = .int .i64 k ∧ sq = .slice Aq q.length cq ∧ Hid (Bs ls m st D q k 0) ∧ Hid (Sd w bd m D Aq q cq wr))
   case atStart => exact ⟨0, _, [st], _, 1, by omega, by simp, rfl, rfl, HI0, HS0⟩
   case round =>
    clear HS0 HI0
    obtain ⟨k, D, q, Aq, cq, hgg, hkq, rfl, rfl, HI, HS⟩ := hrel
    have hqm := HI.out.length
    by_cases hlt : k < q.length
    ·obtain ⟨gq, hq1, hq2⟩ := rdN_own HS.out.qr
     obtain ⟨rfl, hgq⟩ := hq1 (by omega)
     have cqk := hq2 k hlt
     have hum := HI.out.lt _ (List.getElem_mem hlt)
     obtain ⟨u, hu⟩ : ∃ u, q[k]'hlt = u := ⟨_, rfl⟩
     rw [hu] at cqk hum
     obtain ⟨bl, hl1, hl2⟩ := HR.out _ HS.out.bel
     obtain ⟨rfl, hbl⟩ := hl1 (by omega)
     obtain ⟨su, cu, clu, _⟩ := hl2 _ hum
     have HRu := Lh (show ∀ W, Below w.heap.size w W → (∃ s c, W.cell? ⟨bl, u, none⟩ = some (.slice s (ls u).length c) ∧ RdN W B s (ls u)) from fun W hb => by
      obtain ⟨b', h1, h2⟩ := HR.out W hb
      obtain ⟨e, _⟩ := h1 (by omega)
      injection e with e
      injection e with e
      subst e
      exact h2 _ hum)
     have hRd : ∃ gl, (0 < (ls u).length → su = some ⟨gl, 0, none⟩ ∧ gl < B) ∧ Hid (∀ W, Below w.heap.size w W → ∀ (i : Nat) (hi : i < (ls u).length), W.cell? ⟨gl, i, none⟩ = some (.int .i64 (((ls u)[i] : Nat) : Int))) := by
      obtain ⟨s, c, e, gl, r1, r2⟩ := HRu.out _ HS.out.bel
      rw [clu] at e
      injection e with e
      injection e with e1 e2 e3
      subst e1; subst e3
      refine ⟨gl, r1, Lh (fun W hb i hi => ?_)⟩
      obtain ⟨s, c, e', gl', r1', r2'⟩ := HRu.out W hb
      have hW0 : W.cell? ⟨bl, u, none⟩ = w.cell? ⟨bl, u, none⟩ := hb.cell (p := ⟨bl, u, none⟩) (by show bl < _; omega)
      have hW1 : wr.cell? ⟨bl, u, none⟩ = w.cell? ⟨bl, u, none⟩ := HS.out.bel.cell (p := ⟨bl, u, none⟩) (by show bl < _; omega)
      rw [hW0, ← hW1, clu] at e'
      injection e' with e'
      injection e' with e1 e2 e3
      obtain ⟨q1, _⟩ := r1 (by omega)
      obtain ⟨q2, _⟩ := r1' (by omega)
      rw [← e1, q1] at q2
      injection q2 with q2
      injection q2 with q2
      subst q2
      exact r2' i hi
     obtain ⟨gl, hsu, HLs⟩ := hRd
     have HSu := Lh hsu
     have hcqI : (k : Int) < (q.length : Int) := by omega
     have humI : (u : Int) < (m : Int) := by omega
     have HKq := Lh hlt
     have HUM := Lh hum
     have HUe := Lh (show q[k]? = some u by rw [List.getElem?_eq_getElem hlt, hu])
     have hlen := HN.out u
     clear hq1 hq2 hum hl1 hl2 HRu hsu hu hqm hgq hbl
     obtain ⟨nl, hnl⟩ : ∃ nl, (ls u).length = nl := ⟨_, rfl⟩
     have HNl := Lh hnl
     rw [hnl] at clu hlen HSu
     obtain ⟨nq, hnq⟩ : ∃ nq, q.length = nq := ⟨_, rfl⟩
     have HNq := Lh hnq
     have hcq2 : (k : Int) < (nq : Int) := by rw [← hnq]; exact hcqI
     rw [hnq]
     clear hnl hnq hcqI
     go_wp2_with fail
     clear cqk clu hcq2 humI
     go_loopg [7, 10] nl (fun gi sq si wr => ∃ (i : Nat) (D : Nat → Int) (q : List Nat) (Aq : Option Addr) (cq : Nat), i + gi = nl ∧ si = .int .i64 i ∧ sq = .slice Aq q.length cq ∧ Hid (k < q.length ∧ q[k]? = some u) ∧ Hid (Bs ls m st D q k i) ∧ Hid (Sd w bd m D Aq q cq wr))
     case atStart => exact ⟨0, D, q, _, cq, by omega, rfl, by rw [HNq.out], Lh ⟨HKq.out, HUe.out⟩, HI, HS⟩
     case round =>
      clear HI HS HUe HNq HKq hlt hkq
      obtain ⟨i, D, q, Aq, cq, hgi, rfl, rfl, HK, HI, HS⟩ := hrel
      obtain ⟨hkq, hqu⟩ := HK.out
      obtain ⟨_, hqu'⟩ := List.getElem?_eq_some_iff.1 hqu
      by_cases hil : i < nl
      ·obtain ⟨rfl, hglB⟩ := HSu.out (by omega)
       have hil2 : i < (ls u).length := by rw [HNl.out]; exact hil
       have cv := HLs.out _ HS.out.bel i hil2
       have hvm : (ls u)[i] < m := HT.out u _ (List.getElem_mem hil2)
       have cx := HS.out.dr.cell hvm
       obtain ⟨gq, hq1, hq2⟩ := rdN_own HS.out.qr
       obtain ⟨rfl, hgq⟩ := hq1 (by omega)
       have cq' := hq2 k hkq
       rw [hqu'] at cq'
       have cy := HS.out.dr.cell HUM.out
       have hy1 := HI.out.bnd k hkq
       have hy0 : 0 ≤ D u := by obtain ⟨n, e, _⟩ := HI.out.mem u (hqu' ▸ List.getElem_mem hkq); omega
       have hx0 := HI.out.ge (ls u)[i]
       rw [hqu'] at hy1
       have hqm := HI.out.length
       have HSk := Lh (fun h => by have := HI.out.skip hkq (by rw [hqu']; exact hil2); simp only [hqu'] at this; exact this h)
       have HAd := Lh (fun h => by have := HI.out.add HT.out hkq (by rw [hqu']; exact hil2); simp only [hqu'] at this; exact this h)
       have HV := Lh hvm
       obtain ⟨v, hv⟩ : ∃ v, (ls u)[i] = v := ⟨_, rfl⟩
       rw [hv] at cv cx HSk HAd HV hx0
       have HVe := Lh hv
       obtain ⟨x, hx⟩ : ∃ x, D v = x := ⟨_, rfl⟩
       obtain ⟨y, hy⟩ : ∃ y, D u = y := ⟨_, rfl⟩
       have HX := Lh hx
       have HY := Lh hy
       rw [hx] at cx hx0
       rw [hy] at cy hy1 hy0
       obtain ⟨y1, hw⟩ : ∃ y1, IntKind.i64.wrap (y + 1) = y1 := ⟨_, rfl⟩
       have HW := Lh (show y1 = y + 1 by rw [← hw, IntKind.wrap_i64]; omega)
       have hvI : (v : Int) < (m : Int) := by have := HV.out; omega
       have huI : (u : Int) < (m : Int) := by have := HUM.out; omega
       have hiI : (i : Int) < (nl : Int) := by omega
       obtain ⟨nq, hnq⟩ : ∃ nq, q.length = nq := ⟨_, rfl⟩
       have HNq := Lh hnq
       have hkI : (k : Int) < (nq : Int) := by rw [← hnq]; omega
       have hf := HS.out.dr.froz v
       have HQm := Lh hqm
       have HKk := Lh hkq
       have HQu := Lh hqu
       have HGq := Lh (show bd < gq from by have := (HS.out.qr.lt gq rfl).1; omega)
       rw [hnq]
       clear hvm hq1 hq2 hqm hv hx hy hnq hkq hgq HI HK hqu hqu' hgg
       by_cases hneg : x < 0
       ·have HA := Lh (HAd.out (by rw [HX.out]; exact hneg))
        have hne : u ≠ v := by rintro rfl; rw [HX.out] at HY; have := HY.out; omega
        have HS2 := Lh (HS.out.set HV.out y1).drew
        have c1 := HLs.out _ HS2.out.bel i hil2
        rw [HVe.out] at c1
        have c2 : (wr.setCell ⟨bd, v, none⟩ (.int .i64 y1)).drew.cell? ⟨gq, k, none⟩ = some (.int .i64 (u : Int)) := show (wr.setCell ⟨bd, v, none⟩ (.int .i64 y1)).cell? ⟨gq, k, none⟩ = _ from (World.cell?_of_block (a := ⟨gq, k, none⟩) (Below.heap_setCell _ _ _ _ (by show gq ≠ bd; have := HGq.out; omega))).trans cq'
        have c3 : (wr.setCell ⟨bd, v, none⟩ (.int .i64 y1)).drew.cell? ⟨bd, u, none⟩ = some (.int .i64 y) := (HS2.out.dr.cell HUM.out).trans (by rw [upd_other hne, HY.out])
        clear HSk HAd hx0 hy1 hy0 HS
        go_upto_region 16 with fail
        refine wp_region_noPanic ?_
        refine wp_region_held_drew (S := (fun w' => w'.cell? ⟨gl, i, none⟩ = some (.int .i64 (v : Int)) ∧ w'.cell? ⟨gq, k, none⟩ = some (.int .i64 (u : Int)) ∧ w'.cell? ⟨bd, u, none⟩ = some (.int .i64 y))) (by kernel_rfl) (⟨cv, cq', cy⟩) (fun hHeld => ?_)
        refine tk 0 ?_; try simp only [Act.put, zk]
        refine tk 1 ?_; try simp only [Act.put, zk]
        refine tk 2 ?_; try simp only [Act.put, zk]
        refine tk 3 ?_; try simp only [Act.put, zk]
        refine tk 4 ?_; try simp only [Act.put, zk]
        refine tk 5 ?_; try simp only [Act.put, zk]
        refine tk 6 ?_; try simp only [Act.put, zk]
        refine tk 7 ?_; try simp only [Act.put, zk]
        refine tk 8 ?_; try simp only [Act.put, zk]
        refine tk 9 ?_; try simp only [Act.put, zk]
        refine tk 10 ?_; try simp only [Act.put, zk]
        refine tk 11 ?_; try simp only [Act.put, zk]
        refine tk 12 ?_; try simp only [Act.put, zk]
        refine tk 13 ?_; try simp only [Act.put, zk]
        refine tr 14 fun K hK => ?_
        have cx2 : wr.drew.cell? ⟨bd, v, none⟩ = some (.int .i64 x) := cx
        have hf2 : wr.drew.frozen? ⟨bd, v, none⟩ = false := hf
        go_simp
        clear cx cx2 hf hf2 cv cq' cy
        generalize (wr.setCell ⟨bd, v, none⟩ (.int .i64 y1)).drew = W5 at HS2 c1 c2 c3 ⊢
        refine hK.out _ _ (⟨c1, c2, c3⟩) (fun hHeld => ?_)
        clear hK K hHeld c2 c3 hw
        try simp only [Act.put, zk]
        refine wpAnyH_done (by kernel_rfl) (NoPanic.normal ?_) _
        have hb5 := HS2.out.dr.lt.2
        have hq5 := HQm.out
        have hnq5 := HNq.out
        go_wp2_with (first
         | (at_builtin; refine wpList_append_own _ rfl _ _ 24 rfl (bd + 1) 3 i0 (.int .i64 0) 1 8 Tryz.underlying24 hi hz0 hz1 hz2 rfl (by decide) _ nq (natV q) rfl (HNq.out ▸ HS2.out.qr.alloc _) ⟨W5.heap.size, 0, none⟩ 1 1 [.int .i64 (v : Int)] rfl rfl (World.news_of_block (cs := #[.int .i64 (v : Int)]) (t := 3) (fr := (0, 0)) (heap_alloc_new W5 _)) (by simp [Value.oneCell']) (by unfold maxLen; omega) (by omega) (by simp; omega) ?_; intro v2 w6 hown6 hgrow6 _))
        obtain ⟨A6, c6, rfl⟩ := own_shape hown6
        have HS6 := Lh (HS2.out.grow (y := v) HNq.out hown6 hgrow6)
        have HI6 := Lh (show Bs ls m st (upd D v y1) (q ++ [v]) k (i + 1) by have := HA.out; rw [HY.out, ← HW.out] at this; exact this)
        have HK6 := Lh (show k < (q ++ [v]).length ∧ (q ++ [v])[k]? = some u by
         have h1 := HKk.out
         exact ⟨by rw [List.length_append]; omega, by rw [List.getElem?_append_left h1]; exact HQu.out⟩)
        clear hown6 hgrow6 HS2 HA hb5 hq5
        go_wp2
        go_roundg (gk - 1)
        case measure => omega
        case rel => exact ⟨i + 1, upd D v y1, q ++ [v], A6, c6, by omega, by go_num, by rw [List.length_append, HNq.out]; rfl, HK6, HI6, HS6⟩
       ·have HSn := Lh (HSk.out (by rw [HX.out]; omega))
        have HK6 := Lh (show k < q.length ∧ q[k]? = some u from ⟨HKk.out, HQu.out⟩)
        clear HSk HAd hx0 hy1 hy0
        go_wp2
        go_roundg (gk - 1)
        case measure => omega
        case rel => exact ⟨i + 1, D, q, _, cq, by omega, by go_num, by rw [HNq.out], HK6, HSn, HS⟩
      ·obtain rfl : i = nl := by omega
       have hqm := HI.out.length
       have HI2 := Lh (HI.out.next hkq (by rw [hqu', HNl.out]; exact Nat.le_refl _))
       clear HI HK hqu hqu' HLs
       go_wp2
       go_roundg (m + 1 - (k + 1))
       case measure => omega
       case rel => exact ⟨k + 1, D, q, Aq, cq, by omega, by omega, by go_num, rfl, HI2, HS⟩
    ·have HF := Lh (fun v => HI.out.fin (by omega) v)
     have HDm := Lh (show ∀ v, D v ≤ (m : Int) from fun v => by
      by_cases hv : v ∈ q
      ·obtain ⟨a, ha, e⟩ := List.getElem_of_mem hv
       have := HI.out.bnd a ha
       rw [e] at this; omega
      ·rw [HI.out.non v hv]; omega)
     have HD := Lh HS.out.dr
     have HB := Lh HS.out.bel
     clear HI HS
     go_wp2
     go_ret
     exact ⟨bd, D, rfl, HD.out, HF.out, HDm.out, HB.out⟩
end Go.Proofs.YtmajllgfmclcoaaGreatDoor.Wg
namespace Go.Proofs.YtmajllgfmclcoaaGreatDoor.Wg
open Go.RowKit Dms Til Dss Flp Go.Joins
open Lst (halfR_le listR listR_small listR_half sListTilings idxR idx_at idx_end sIndexOf)
open Ext (SSP halfR allR allR_ok allR_not)
open Reg hiding add_none RC rc_start
theorem idx_two (T : List (List Dm)) (M : List Dm) : (∃ (i : Nat) (hi : i < T.length), T[i] = M ∧ idxR T M = (i : Int)) ∨ ((∀ (i : Nat) (hi : i < T.length), T[i] ≠ M) ∧ idxR T M = -1) := by
 have key : ∀ n, n ≤ T.length → (∃ (i : Nat) (hi : i < T.length), T[i] = M ∧ ∀ j (hj : j < T.length), j < i → T[j] ≠ M) ∨ ∀ (i : Nat) (hi : i < T.length), i < n → T[i] ≠ M := by
  intro n
  induction n with
  | zero => intro _; exact .inr (fun i _ h => by omega)
  | succ n ih =>
   intro hn
   rcases ih (by omega) with h | h
   ·exact .inl h
   ·by_cases e : T[n] = M
    ·exact .inl ⟨n, by omega, e, fun j hj hjn => h j hj hjn⟩
    ·refine .inr (fun i hi hin => ?_)
     by_cases e2 : i = n
     ·subst e2; exact e
     ·exact h i hi (by omega)
 rcases key T.length NR with ⟨i, hi, e, h⟩ | h
 ·exact .inl ⟨i, hi, e, idx_at hi h e⟩
 ·exact .inr ⟨fun i hi => h i hi hi, idx_end (fun j hj => h j hj hj)⟩
theorem lnk_length (T : List (List Dm)) (u : Nat) : (lnk T u).length ≤ 64 * T.length := by
 rcases Nat.lt_or_ge u T.length with h | h
 ·rw [← lnkTo_all h]
  have h1 := lnkTo_length T T[u] (flipsR T[u]).length
  have h2 := flipsTo_length T[u] 64
  rw [flipsTo_all] at h2
  exact Nat.le_trans h1 (Nat.mul_le_mul h2 NR)
 ·rw [lnk_out h]; simp
def DisR (T : List (List Dm)) (L M : List Dm) (d : Int) : Prop :=
 (∃ (i j : Nat) (hi : i < T.length) (hj : j < T.length), T[i] = L ∧ T[j] = M ∧ IsD (Ed (lnk T)) j i d) ∨ ((L ∉ T ∨ M ∉ T) ∧ d = -1)
theorem dis_no {T : List (List Dm)} {L M : List Dm} (h : (∀ (i : Nat) (hi : i < T.length), T[i] ≠ L) ∨ ∀ (i : Nat) (hi : i < T.length), T[i] ≠ M) : DisR T L M (-1) := by
 refine .inr ⟨?_, rfl⟩
 rcases h with h | h
 ·left; intro hm; obtain ⟨k, hk, e⟩ := List.getElem_of_mem hm; exact h k hk e
 ·right; intro hm; obtain ⟨k, hk, e⟩ := List.getElem_of_mem hm; exact h k hk e
def DisP (T : List (List Dm)) (L M : List Dm) (w : World) (e : Ending) (w' : World) : Prop := ∃ d : Int, e = .returned (.int .i64 d) ∧ DisR T L M d ∧ Below w.heap.size w w'
set_option maxHeartbeats 4000000 in
theorem sFlipDistance (w : World) (A : Option Addr) (n cap B : Nat) (xs : List Int) (hx : xs.length = n) (hn : (n : Int) ≤ 9223372036854775807) (hrow : RowB w B A xs) (hB : B ≤ w.heap.size)
  (A1 : Option Addr) (n1 cap1 B1 : Nat) (L : List Dm) (hL : L.length = n1) (hn1 : (n1 : Int) ≤ 9223372036854775807) (h1 : RowM w B1 A1 L) (hB1 : B1 ≤ w.heap.size)
  (A2 : Option Addr) (n2 cap2 B2 : Nat) (M : List Dm) (hM : M.length = n2) (hn2 : (n2 : Int) ≤ 9223372036854775807) (h2 : RowM w B2 A2 M) (hB2 : B2 ≤ w.heap.size) :
  Calls Tryz.prog 13 #[.agg #[.slice A n cap], .slice A1 n1 cap1, .slice A2 n2 cap2] w (DisP (listR xs) L M w) := by
 have HI1 := Lh (fun W (hb : Below w.heap.size w W) => sIndexOf W A n cap B xs hx hn (hrow.below hb hB) (by have := hb.size; omega) A1 n1 cap1 B1 L hL hn1 (h1.below hb hB1) (by have := hb.size; omega))
 have HI2 := Lh (fun W (hb : Below w.heap.size w W) => sIndexOf W A n cap B xs hx hn (hrow.below hb hB) (by have := hb.size; omega) A2 n2 cap2 B2 M hM hn2 (h2.below hb hB2) (by have := hb.size; omega))
 have HLs := Lh (fun W (hb : Below w.heap.size w W) => sListTilings W A n cap B xs hx hn (hrow.below hb hB) (by have := hb.size; omega))
 have HS := Lh (below_alloc1 w (.cells #[.slice A n cap] 26))
 have HR := Lh (Rg.new w (.slice A n cap))
 have hsm := listR_small xs
 have HHf := Lh (listR_half (xs := xs))
 have hhf := halfR_le xs
 unfold SSP at HLs
 generalize listR xs = T at HI1 HI2 HLs hsm HHf ⊢
 generalize halfR xs = h at HLs HHf hhf
 have q1 := idx_two T L
 have q2 := idx_two T M
 have hlnl := fun u => lnk_length T u
 have HLn := Lh (fun u => Nat.le_trans (hlnl u) (by omega : 64 * T.length ≤ 100000))
 obtain ⟨m, hm⟩ : ∃ m, T.length = m := ⟨_, rfl⟩
 have HLt := Lh (fun u v (hv : v ∈ lnk T u) => hm ▸ lnk_lt hv)
 have HM := Lh hm
 rw [hm] at HLs hsm
 clear hx hn hrow hB hL hn1 h1 hB1 hM hn2 h2 hB2 hlnl hm
 go_enter Tryz.func13, Tryz.ntmps13
 go_wp2_with fail
 generalize w.alloc (.cells #[.slice A n cap] 26) = W0 at HS HR ⊢
 have c0 := HR.out.c0
 refine (HI1.out _ HS.out).mono ?_
 rintro e w1 ⟨rfl, hb1⟩
 have B1 := Lh (HS.out.trans (hb1.mono HS.out.size))
 have R1 := Lh (HR.out.on hb1)
 clear hb1 HS HR c0 HI1
 have c0 := R1.out.c0
 go_wp2_with fail
 refine (HI2.out _ B1.out).mono ?_
 rintro e w2 ⟨rfl, hb2⟩
 have B2 := Lh (B1.out.trans (hb2.mono B1.out.size))
 have R2 := Lh (R1.out.on hb2)
 clear hb2 B1 R1 c0 HI2
 rcases q1 with ⟨i, hi, ei, e1⟩ | ⟨no, e1⟩
 ·rcases q2 with ⟨j, hj, ej, e2⟩ | ⟨no, e2⟩
  ·have HF := Lh (fun d (hd : IsD (Ed (lnk T)) j i d) => show DisR T L M d from .inl ⟨i, j, hi, hj, ei, ej, hd⟩)
   have him : i < m := by rw [← HM.out]; exact hi
   have hjm : j < m := by rw [← HM.out]; exact hj
   have hiI : (i : Int) < (m : Int) := by omega
   rw [e1, e2]
   clear hi hj ei ej e1 e2
   have c0 := R2.out.c0
   go_wp2_with fail
   refine (HLs.out _ B2.out).mono ?_
   rintro e w3 ⟨A3, c3, rfl, hss, hb3⟩
   have B3 := Lh (B2.out.trans (hb3.mono B2.out.size))
   have HSS := Lh (ss_row hss)
   clear hss hb3 HLs B2 R2 c0
   go_wp2_with fail
   refine (sLinks w3 A3 m c3 w3.heap.size h T HM.out (by omega) HHf.out (by omega) HSS.out NR).mono ?_
   rintro e w4 ⟨A4, c4, rfl, hrl, _, hb4⟩
   have B4 := Lh (B3.out.trans (hb4.mono B3.out.size))
   have HRl := Lh hrl
   clear hrl hb4 B3 HSS
   go_wp2_with fail
   refine (sDistances w4 A4 m c4 w4.heap.size (lnk T) (by omega) HRl.out NR j hjm HLt.out HLn.out).mono ?_
   rintro e w5 ⟨bd, D, rfl, hnr, hD, _, hb5⟩
   have B5 := Lh (B4.out.trans (hb5.mono B4.out.size))
   have cd := hnr.cell him
   have HE := Lh (HF.out _ (hD i))
   clear hnr hD hb5 HRl B4
   generalize D i = d at cd HE
   go_wp2
   go_ret
   exact ⟨d, rfl, HE.out, B5.out⟩
  ·have HF := Lh (dis_no (L := L) (.inr no))
   rw [e1, e2]
   clear no e1 e2 ei
   go_wp2
   go_ret
   exact ⟨-1, rfl, HF.out, B2.out⟩
 ·have HF := Lh (dis_no (M := M) (.inl no))
  rw [e1]
  clear no e1 q2
  go_wp2
  go_ret
  exact ⟨-1, rfl, HF.out, B2.out⟩
end Go.Proofs.YtmajllgfmclcoaaGreatDoor.Wg
namespace Go.Proofs.YtmajllgfmclcoaaGreatDoor.Wg
open Go.RowKit Go.Proofs.YtmajllgfmclcoaaGreatDoor.Pure Hgt Go.Joins
open Lis (allT all_til all_order Bfr Bfr.ne)
theorem simple_far {xs : List Int} (ho : okR xs) (h1 : Bal.outsN xs = 1) (ht : ¬ Bal.Touch xs) {i j : Nat} (hi : i < (allT xs).length) (hj : j < (allT xs).length) : IsD (Ed (lnk (allT xs))) i j (farL (allT xs)[i] (allT xs)[j] : Nat) := by
 obtain ⟨w, hw, hf⟩ := way_ex (one_simple ho h1 ht) (at_til ho hj) _ _ (at_til ho hi) rfl
 refine .inl ⟨_, rfl, hw ▸ flips_way ho w i j hi hj hf, fun m p => ?_⟩
 obtain ⟨w2, hw2, hf2⟩ := way_flips ho m i j hi hj p
 have := way_least (at_til ho hj) w2 _ (at_til ho hi) hf2
 omega
end Go.Proofs.YtmajllgfmclcoaaGreatDoor.Wg
namespace Go.Proofs.YtmajllgfmclcoaaGreatDoor.Wg
open Go.RowKit Hgt Go.Joins
open Lis (allT all_til)
open Flo
theorem sim_far {xs : List Int} (hsim : simB xs = true) {i j : Nat} (hi : i < (allT xs).length) (hj : j < (allT xs).length) {d : Int} (h : IsD (Ed (lnk (allT xs))) j i d) : d = (farL (allT xs)[i] (allT xs)[j] : Nat) := by
 unfold simB at hsim
 obtain ⟨ok, h1, h0, ht⟩ := of_decide_eq_true hsim
 have ho : Bal.outsN xs = 1 := by
  unfold holN at h0
  rw [if_pos ok] at h0
  have := Bal.outs_pos xs
  omega
 exact isD_uniq (isD_rev (ed_symm ok) h) (simple_far ok ho (fun t => by rw [touchB_iff.2 t] at ht; cases ht) hi hj)
end Go.Proofs.YtmajllgfmclcoaaGreatDoor.Wg
