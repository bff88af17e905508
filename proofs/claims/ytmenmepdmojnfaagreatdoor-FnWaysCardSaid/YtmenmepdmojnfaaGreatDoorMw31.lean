/- Lon, DiI in one text. -/
import Derived.Test.YtmenmepdmojnfaaGreatDoorMw17
import Derived.Conc.LoneCalls
import Derived.Tactics
import Derived.Test.YtmenmepdmojnfaaGreatDoorMw30
import Derived.Test.YtmenmepdmojnfaaGreatDoorMw24

namespace Go.Proofs.YtmenmepdmojnfaaGreatDoor.Lon
open Go.RowKit Go.Conc Go.Joins Go.Proofs.YtmenmepdmojnfaaGreatDoor.Wg
set_option linter.unusedVariables false
set_option linter.unusedSimpArgs false

def Led (P : Program) (ops : Array Oper) (Q : Exit → Act → World → Prop) (l : List Nat) (a : Act) (w : World) : Prop :=
 ∀ (b : Frame) (k : List Item) (cs : List Frame), ∃ e a' w', Q e a' w' ∧ Arrives P (lone (b.at a (.inRegion ops l :: k)) cs w) b k cs e a' w'
section
variable {P : Program} {ops : Array Oper} {Q : Exit → Act → World → Prop} {l rest : List Nat} {a : Act} {w : World} {i : Nat} {o : Oper}
theorem wp_of_led {id : Nat} (h : Led P ops Q (List.range ops.size) a w) : (Code.region id ops false).wp P Q a w :=
 fun b k cs => let ⟨e, a', w', q, r⟩ := h b k cs; ⟨e, a', w', q, .of_steps (.one step_region) r⟩
theorem led_end (h : Q .normal a w) : Led P ops Q [] a w := fun b k cs => ⟨.normal, a, w, h, .one step_region_end⟩
theorem fin_at (ho : ops[i]? = some o) (b : Frame) (k : List Item) (v : Value) : (b.at a (.inRegion ops (i :: rest) :: k)).finish v = b.at (a.put o.dst v) (.inRegion ops rest :: k) := by
 rw [Frame.finish_at, ho]; rfl
theorem led_val (ho : ops[i]? = some o) (hg : o.guard = none) {v : Value} {w' : World} (hr : (execOp a.eval o).run P w = .ok (.value v) w') (h : Led P ops Q rest (a.put o.dst v) w') : Led P ops Q (i :: rest) a w := by
 intro b k cs
 obtain ⟨e, a', w2, hq, harr⟩ := h b k cs
 refine ⟨e, a', w2, hq, .of_steps (.one (step_lone_go ?_)) harr⟩
 rw [stepG_op ho (by simp [Region.wanted, hg]), ← fin_at ho]
 simp [stepG.apply, hr]
theorem comm_step (ho : ops[i]? = some o) (hg : o.guard = none) {cases : Array CommCase} {bl : Bool} {sh : CommShape} {w' : World} (hr : (execOp a.eval o).run P w = .ok (.comm cases bl sh) w') (b : Frame) (k : List Item) (cs : List Frame) :
  ∃ es, stepG P true (G (b.at a (.inRegion ops (i :: rest) :: k)) cs) w = .comm (G (b.at a (.inRegion ops (i :: rest) :: k)) cs) cases bl sh w' es := by
 have h := stepG_op (P := P) (b := b) (k := k) (cs := cs) (w := w) (rest := rest) ho (by simp [Region.wanted, hg] : Region.wanted o (yielded ops a.tmps) = true)
 show ∃ es, stepG P true { frame := b.at a (.inRegion ops (i :: rest) :: k), callers := cs, status := .running, dying := none } w = _
 rw [h]
 simp only [stepG.apply, Sem.runT_eq, hr, if_true]
 exact ⟨_, rfl⟩
theorem led_send (ho : ops[i]? = some o) (hg : o.guard = none) {c cap s r : Nat} {buf : Array Value} {v z : Value} {tm : Bool}
  (hr : (execOp a.eval o).run P w = .ok (.comm #[scase c v z] true .send) w) (hc : w.heap[c]? = some (.chan cap buf false s r tm)) (hroom : buf.size < cap)
  (h : Led P ops Q rest (a.put o.dst undef) (w.setChan c cap (buf.push v) false (s + 1) r tm)) : Led P ops Q (i :: rest) a w := by
 intro b k cs
 obtain ⟨e, a', w2, hq, harr⟩ := h b k cs
 obtain ⟨es, hst⟩ := comm_step (rest := rest) ho hg hr b k cs
 have := step_lone_send_room hst hc hroom
 rw [fin_at ho] at this
 exact ⟨e, a', w2, hq, .of_steps (.one this) harr⟩
theorem led_recv (ok : Bool) (ho : ops[i]? = some o) (hg : o.guard = none) {c cap s r : Nat} {buf : Array Value} {z : Value} {tm cl : Bool}
  (hr : (execOp a.eval o).run P w = .ok (.comm #[rcase c z] true (.recv ok)) w) (hc : w.heap[c]? = some (.chan cap buf cl s r tm)) (hsome : 0 < buf.size)
  (h : Led P ops Q rest (a.put o.dst (got ok (buf.getD 0 undef) true)) (w.setChan c cap (buf.extract 1 buf.size) cl s (r + 1) tm)) : Led P ops Q (i :: rest) a w := by
 intro b k cs
 obtain ⟨e, a', w2, hq, harr⟩ := h b k cs
 obtain ⟨es, hst⟩ := comm_step (rest := rest) ho hg hr b k cs
 have := step_lone_recv_buf ok hst hc hsome
 rw [fin_at ho] at this
 exact ⟨e, a', w2, hq, .of_steps (.one this) harr⟩
theorem led_shut (ok : Bool) (ho : ops[i]? = some o) (hg : o.guard = none) {c cap s r : Nat} {z : Value} {tm : Bool}
  (hr : (execOp a.eval o).run P w = .ok (.comm #[rcase c z] true (.recv ok)) w) (hc : w.heap[c]? = some (.chan cap #[] true s r tm))
  (h : Led P ops Q rest (a.put o.dst (got ok z false)) w) : Led P ops Q (i :: rest) a w := by
 intro b k cs
 obtain ⟨e, a', w2, hq, harr⟩ := h b k cs
 obtain ⟨es, hst⟩ := comm_step (rest := rest) ho hg hr b k cs
 have := step_lone_recv_shut ok hst hc
 rw [fin_at ho] at this
 exact ⟨e, a', w2, hq, .of_steps (.one this) harr⟩
end
theorem run_len_ch {P : Program} {w : World} {c cap s r : Nat} {cl : Bool} {buf : Array Value} {dir : ChanDir} {e : TypeId} (t ty : TypeId) (ht : P.underlying t = some (.chan dir e)) (hc : w.heap[c]? = some (.chan cap buf cl s r false)) :
  (Builtin.len_ #[t] ty #[.chan (some c)]).run P w = .ok (goInt buf.size) w := by
 simp [Builtin.len_, run_underlying ht, run_getObj_chan _ _ hc]
theorem setChan_ne (w : World) {c j : Nat} (cap : Nat) (buf : Array Value) (cl : Bool) (s r : Nat) (tm : Bool) (h : c ≠ j) : (w.setChan c cap buf cl s r tm).heap[j]? = w.heap[j]? := by
 simp only [World.setChan]; rw [Array.getElem?_setIfInBounds_ne h]
def ChQ (W : World) (c cap : Nat) (q : List Nat) (cl : Bool) (s r : Nat) : Prop := W.heap[c]? = some (.chan cap (natV q).toArray cl s r false)
section
variable {W W' : World} {c cap s r : Nat} {q : List Nat} {cl : Bool}
theorem ChQ.lt (h : ChQ W c cap q cl s r) : c < W.heap.size := (Array.getElem?_eq_some_iff.1 h).1
theorem ChQ.on (h : ChQ W c cap q cl s r) (hb : Below W.heap.size W W') : ChQ W' c cap q cl s r := (hb.block c h.lt).trans h
theorem ChQ.set (h : ChQ W c cap q cl s r) {p : Addr} (hp : c ≠ p.block) (v : Value) : ChQ (W.setCell p v) c cap q cl s r := (Below.heap_setCell W p v c hp).trans h
theorem ChQ.put (h : ChQ W c cap q cl s r) (q' : List Nat) (s' r' : Nat) (cl' : Bool) : ChQ (W.setChan c cap (natV q').toArray cl' s' r' false) c cap q' cl' s' r' := Go.Conc.heap_setChan _ _ _ _ _ _ _ _ h.lt
theorem ch_made (W : World) (cap : Nat) : ChQ (W.alloc (.chan cap #[] false 0 0 false)) W.heap.size cap [] false 0 0 := heap_alloc_new W _
end
theorem grown_chan (w : World) (c cap : Nat) (buf : Array Value) (cl : Bool) (s r : Nat) (tm : Bool) : w.grownBy (w.setChan c cap buf cl s r tm) (some c) :=
 ⟨rfl, rfl, rfl, by rw [Go.Conc.size_setChan]; exact Nat.le_refl _, fun k _ hne => setChan_ne w cap buf cl s r tm (fun e => hne (by rw [e]))⟩
theorem natV_pop (x : Nat) (t : List Nat) : (natV (x :: t)).toArray.extract 1 (natV (x :: t)).toArray.size = (natV t).toArray := by
 unfold natV
 simp only [List.map_cons, List.extract_toArray, List.size_toArray, List.length_cons, List.length_map, List.extract_eq_take_drop, List.drop_succ_cons, List.drop_zero, Nat.add_sub_cancel]
 rw [List.take_of_length_le (by simp)]
theorem natV_top (x : Nat) (t : List Nat) : (natV (x :: t)).toArray.getD 0 undef = .int .i64 (x : Int) := by
 unfold natV; simp
end Go.Proofs.YtmenmepdmojnfaaGreatDoor.Lon

namespace Go.Proofs.YtmenmepdmojnfaaGreatDoor.Wg
set_option linter.unusedVariables false
set_option linter.unusedSimpArgs false
set_option maxRecDepth 100000
open Go.RowKit Go.Conc Go.Proofs.YtmenmepdmojnfaaGreatDoor.Lon Go.Proofs.YtmenmepdmojnfaaGreatDoor.Dms Go.Proofs.YtmenmepdmojnfaaGreatDoor.Dss Go.Joins
open Go.Proofs.YtmenmepdmojnfaaGreatDoor.Reg (own_below own_base)

theorem chInfo : ∃ i, Tryz.prog.info? 3 = some i ∧ i.bytes = 8 := by
 have h : (Tryz.prog.info? 3).map (·.bytes) = some 8 := by kernel_rfl
 obtain ⟨i, hi, hb⟩ := Option.map_eq_some_iff.1 h
 exact ⟨i, hi, hb⟩
theorem mkCh (n : Nat) (hn : n ≤ 300) (W : World) : (Instr.makeChan 95 (.int .i64 (n : Int))).run Tryz.prog W = .ok (.chan (some W.heap.size)) (W.alloc (.chan n #[] false 0 0 false)) := by
 obtain ⟨i, hi, hb⟩ := chInfo
 exact run_makeChan Tryz.underlying95 hi .i64 n (by omega) (by rw [hb]; omega)
structure Sw (w : World) (bd c m : Nat) (D : Nat → Int) (q : List Nat) (cl : Bool) (W : World) : Prop where
 bel : Below w.heap.size w W
 dr : NumR W w.heap.size bd m D
 ch : ∃ s r, ChQ W c m q cl s r
 ne : bd ≠ c
 lo : w.heap.size ≤ c
section
variable {w W W' : World} {bd c m : Nat} {D : Nat → Int} {q : List Nat} {cl : Bool}
theorem Sw.on (h : Sw w bd c m D q cl W) (hb : Below W.heap.size W W') : Sw w bd c m D q cl W' :=
 ⟨h.bel.trans (hb.mono h.bel.size), h.dr.on hb, by obtain ⟨s, r, k⟩ := h.ch; exact ⟨s, r, k.on hb⟩, h.ne, h.lo⟩
theorem Sw.drew (h : Sw w bd c m D q cl W) : Sw w bd c m D q cl W.drew := ⟨h.bel.drew, h.dr, h.ch, h.ne, h.lo⟩
theorem Sw.set (h : Sw w bd c m D q cl W) {v : Nat} (hv : v < m) (x : Int) : Sw w bd c m (upd D v x) q cl (W.setCell ⟨bd, v, none⟩ (.int .i64 x)) :=
 ⟨h.bel.setCell (p := ⟨bd, v, none⟩) h.dr.lt.1 _, h.dr.set hv x, by obtain ⟨s, r, k⟩ := h.ch; exact ⟨s, r, k.set (fun e => h.ne e.symm) _⟩, h.ne, h.lo⟩
theorem Sw.chan (h : Sw w bd c m D q cl W) (q' : List Nat) (cl' : Bool) (s r : Nat) : Sw w bd c m D q' cl' (W.setChan c m (natV q').toArray cl' s r false) := by
 obtain ⟨s0, r0, k⟩ := h.ch
 exact ⟨below_setChan h.bel h.lo _ _ _ _ _ _, h.dr.kept (grown_chan W c m _ _ _ _ _) (fun g e => by injection e with e; exact fun q => h.ne (by omega)), ⟨s, r, k.put _ _ _ _⟩, h.ne, h.lo⟩
def Agr (a b : Nat) (W W' : World) : Prop := W.heap.size ≤ W'.heap.size ∧ ∀ j, j < W.heap.size → j ≠ a → j ≠ b → W'.heap[j]? = W.heap[j]?
theorem Agr.refl (a b : Nat) (W : World) : Agr a b W W := ⟨Nat.le_refl _, fun _ _ _ _ => rfl⟩
theorem Agr.on {a b : Nat} {V : World} (h : Agr a b V W) (hb : Below W.heap.size W W') : Agr a b V W' := ⟨Nat.le_trans h.1 hb.size, fun j hj h1 h2 => (hb.block j (Nat.lt_of_lt_of_le hj h.1)).trans (h.2 j hj h1 h2)⟩
theorem Agr.set {a b : Nat} {V : World} (h : Agr a b V W) (i : Nat) (x : Value) : Agr a b V (W.setCell ⟨a, i, none⟩ x) := ⟨by simpa [World.setCell] using h.1, fun j hj h1 h2 => (Below.heap_setCell W ⟨a, i, none⟩ x j h1).trans (h.2 j hj h1 h2)⟩
theorem Agr.chan {a b : Nat} {V : World} (h : Agr a b V W) (cap : Nat) (buf : Array Value) (cl : Bool) (s r : Nat) (tm : Bool) : Agr a b V (W.setChan b cap buf cl s r tm) := ⟨by rw [size_setChan]; exact h.1, fun j hj h1 h2 => (setChan_ne W cap buf cl s r tm (Ne.symm h2)).trans (h.2 j hj h1 h2)⟩
theorem Agr.cell {a b : Nat} {V : World} (h : Agr a b V W) {g i : Nat} (hg : g < V.heap.size) (h1 : g ≠ a) (h2 : g ≠ b) : W.cell? ⟨g, i, none⟩ = V.cell? ⟨g, i, none⟩ := World.cell?_of_block (h.2 g hg h1 h2)
end
def ftG (T : List (List Dm)) (u : Nat) : List Ft := fts T (T.getD u [])
def At3I (W : World) (p : Nat) (x y z : Int) : Prop := W.heap[p]? = some (.cells #[.int .i64 x, .int .i64 y, .int .i64 z] 69)
section
variable {W W' : World} {p : Nat} {x y z : Int}
theorem At3I.new (W : World) (x y z : Int) : At3I (W.alloc (.cells #[.int .i64 x, .int .i64 y, .int .i64 z] 69)) W.heap.size x y z := heap_alloc_new W _
theorem At3I.lt (h : At3I W p x y z) : p < W.heap.size := (Array.getElem?_eq_some_iff.1 h).1
theorem At3I.c0 (h : At3I W p x y z) : W.cell? ⟨p, 0, none⟩ = some (.int .i64 x) := (cell_of_row _ _ 0 _ _ _ h).trans rfl
theorem At3I.c1 (h : At3I W p x y z) : W.cell? ⟨p, 1, none⟩ = some (.int .i64 y) := (cell_of_row _ _ 1 _ _ _ h).trans rfl
theorem At3I.c2 (h : At3I W p x y z) : W.cell? ⟨p, 2, none⟩ = some (.int .i64 z) := (cell_of_row _ _ 2 _ _ _ h).trans rfl
theorem At3I.on (h : At3I W p x y z) (hb : Below W.heap.size W W') : At3I W' p x y z := (hb.block p h.lt).trans h
theorem At3I.set (h : At3I W p x y z) {g : Nat} (hg : p ≠ g) (i : Nat) (v : Value) : At3I (W.setCell ⟨g, i, none⟩ v) p x y z := (Below.heap_setCell W ⟨g, i, none⟩ v p hg).trans h
end

set_option maxHeartbeats 8000000 in
theorem iDistances (w : World) (A : Option Addr) (m cap B h : Nat) (T : List (List Dm)) (hT : T.length = m) (hm : m ≤ 300) (hh : h ≤ 32) (hall : ∀ L ∈ T, L.length = h) (hg : Gd T) (hr : RowSS w B A m h T) (hB : B ≤ w.heap.size) (st : Nat) (hto : st < T.length) :
  Calls Tryz.prog 42 #[.slice A m cap, .int .i64 (st : Int)] w (DsP (lnk T) m st w) := by
 have HT := Lib.hid (show ∀ u v, v ∈ lnk T u → v < m from fun u v hv => hT ▸ lnk_lt hv)
 have HFl := Lib.hid (fun W (hb : Below w.heap.size w W) u (hu : u < T.length) => show Calls Tryz.prog 50 #[.slice A m cap, .int .i64 (u : Int)] W (FtP (ftG T u) W) from by
  unfold ftG
  rw [getD_at hu]
  exact iFlips W A m cap B h T hT hm hh hall hg (hr.below hT hb hB) (by have := hb.size; omega) u hu)
 have HGm := Lib.hid (show ∀ u, u < T.length → lnk T u = (ftG T u).map (·.2) from fun u hu => by
  unfold ftG
  rw [getD_at hu]
  exact hg.lk u hu)
 have HM := Lib.hid hT
 have htm : st < m := by omega
 have HRp := Lib.hid (iRepeat (w.alloc (.cells #[.int .i64 (-1)] 3)) w.heap.size m (by omega) hm (by simp) ((cell_of_row _ _ 0 _ _ _ (heap_alloc_new w (.cells #[.int .i64 (-1)] 3))).trans rfl))
 have HB0 := Lib.hid (below_alloc1 w (.cells #[.int .i64 (-1)] 3))
 have hmk := mkCh m hm
 have htI : (st : Int) < (m : Int) := by omega
 clear hall hg hr hB hto hT
 go_enter Tryz.func42, Tryz.ntmps42
 go_wp2_with fail
 refine HRp.out.mono ?_
 rintro e w1 ⟨bd, rfl, hnr0, hb1⟩
 have hnr : NumR w1 w.heap.size bd m (fun _ => -1) := own_base hnr0 (by simp)
 clear hnr0
 have HB1 := Lib.hid (HB0.out.trans (hb1.mono HB0.out.size))
 obtain ⟨u0, hu0⟩ : ∃ u0, w1.cell? ⟨bd, st, none⟩ = some u0 := ⟨_, hnr.cell htm⟩
 have hf0 := hnr.froz st
 have hlt0 := hnr.lt
 have HD0 := Lib.hid (hnr.set htm 0)
 have HB2 := Lib.hid (HB1.out.setCell (p := ⟨bd, st, none⟩) hlt0.1 (.int .i64 0))
 clear hnr hb1 HRp HB0 HB1
 go_upto_region 3 with fail
 generalize w1.setCell ⟨bd, st, none⟩ (.int .i64 0) = w2 at HD0 HB2 ⊢
 clear hu0 hf0 htI hlt0
 go_upto_region 4 with fail
 have HS0 := Lib.hid (show Sw w bd w2.heap.size m (upd (fun _ => -1) st 0) [] false (w2.alloc (.chan m #[] false 0 0 false)) from
  ⟨HB2.out.trans ((below_alloc1 w2 _).mono HB2.out.size), HD0.out.on (below_alloc1 w2 _), ⟨0, 0, ch_made w2 m⟩, by have := HD0.out.lt; omega, HB2.out.size⟩)
 have HCh := Lib.hid (ch_made w2 m)
 generalize w2.alloc (.chan m #[] false 0 0 false) = w3 at HS0 HCh ⊢
 generalize w2.heap.size = c at HS0 HCh ⊢
 clear HD0 HB2 hmk u0
 refine wp_of_led ?_
 show Led _ _ _ [0, 1, 2] _ _
 refine led_val (v := .chan (some c)) (w' := w3) rfl rfl (by go_simp) ?_
 try simp only [Act.put, List.getElem_toArray, List.getElem_cons_succ, List.getElem_cons_zero, List.setIfInBounds_toArray, List.set_cons_zero, List.set_cons_succ]
 refine led_val (v := .int .i64 (st : Int)) (w' := w3) rfl rfl (by go_simp) ?_
 try simp only [Act.put, List.getElem_toArray, List.getElem_cons_succ, List.getElem_cons_zero, List.setIfInBounds_toArray, List.set_cons_zero, List.set_cons_succ]
 refine led_send rfl rfl (c := c) (v := .int .i64 (st : Int)) (z := .tuple #[]) (by simp [execOp, scase, Act.eval]) HCh.out (show 0 < m by omega) ?_
 try simp only [Act.put, List.getElem_toArray, List.getElem_cons_succ, List.getElem_cons_zero, List.setIfInBounds_toArray, List.set_cons_zero, List.set_cons_succ]
 have HS1 := Lib.hid (HS0.out.chan [st] false (0 + 1) 0)
 rw [show (natV []).toArray.push (.int .i64 (st : Int)) = (natV [st]).toArray from rfl]
 generalize w3.setChan c m (natV [st]).toArray false (0 + 1) 0 false = w4 at HS1 ⊢
 have HI0 := Lib.hid (Bs.start (m := m) (lnk T) htm)
 clear HS0 HCh
 refine led_end ?_
 go_wp2_with fail
 go_loopg [7] (m + 1) (fun gg s7 wr => ∃ (k : Nat) (D : Nat → Int) (q : List Nat) (cl : Bool), k + gg = m + 1 ∧ k ≤ q.length ∧ Hid (k < q.length ∧ cl = false ∨ k = q.length ∧ cl = true) ∧ Hid (Bs (lnk T) m st D q k 0) ∧ Hid (Sw w bd c m D (q.drop k) cl wr))
 case atStart => exact ⟨0, _, [st], false, by omega, by simp, Lib.hid (.inl ⟨by simp, rfl⟩), HI0, HS1⟩
 case round =>
  clear HS1 HI0
  obtain ⟨k, D, q, cl, hgg, hkq, HK, HI, HS⟩ := hrel
  have hqm := HI.out.length
  rcases HK.out with ⟨hlt, rfl⟩ | ⟨rfl, rfl⟩
  ·obtain ⟨s, r, hch⟩ := HS.out.ch
   rw [List.drop_eq_getElem_cons hlt] at hch
   obtain ⟨u, hu⟩ : ∃ u, q[k] = u := ⟨_, rfl⟩
   rw [hu] at hch
   have hum : u < m := HI.out.lt _ (hu ▸ List.getElem_mem hlt)
   have HKq := Lib.hid (show k < q.length ∧ q[k]? = some u from ⟨hlt, by rw [List.getElem?_eq_getElem hlt, hu]⟩)
   have HCh := Lib.hid hch
   clear hch hu
   go_upto_region 6 with fail
   refine wp_of_led ?_
   show Led _ _ _ [0, 1] _ _
   refine led_recv true rfl rfl (c := c) (z := .int .i64 0) (by simp [go_sem, rcase]) HCh.out (by simp [natV]) ?_
   rw [natV_top, natV_pop]
   simp only [got, if_true]
   try simp only [Act.put, List.getElem_toArray, List.getElem_cons_succ, List.getElem_cons_zero, List.setIfInBounds_toArray, List.set_cons_zero, List.set_cons_succ]
   have HS5 := Lib.hid (HS.out.chan (q.drop (k + 1)) false s (r + 1))
   generalize wr.setChan c m (natV (q.drop (k + 1))).toArray false s (r + 1) false = W5 at HS5 ⊢
   refine led_val (v := .bool true) (w' := W5) rfl rfl (by go_simp) ?_
   try simp only [Act.put, List.getElem_toArray, List.getElem_cons_succ, List.getElem_cons_zero, List.setIfInBounds_toArray, List.set_cons_zero, List.set_cons_succ]
   refine led_end ?_
   clear HCh HS HK
   have HFu := Lib.hid (HFl.out W5 HS5.out.bel u (by rw [HM.out]; exact hum))
   have HGu := Lib.hid (HGm.out u (by rw [HM.out]; exact hum))
   obtain ⟨l, hl⟩ : ∃ l, ftG T u = l := ⟨_, rfl⟩
   rw [hl] at HFu HGu
   clear hl
   go_wp2_with fail
   refine HFu.out.mono ?_
   rintro e W6 ⟨Af, cf, rfl, hof, hb6⟩
   have HS6 := Lib.hid (HS5.out.on hb6)
   obtain ⟨gf, f1, f2⟩ := rdT_own hof
   have HF1 := Lib.hid (show 0 < l.length → Af = some ⟨gf, 0, none⟩ ∧ gf < W6.heap.size ∧ gf ≠ bd ∧ gf ≠ c from fun h0 => by
    obtain ⟨e1, e2⟩ := f1 h0
    subst e1
    have h1 := (hof.lt gf rfl).1
    have h2 := HS5.out.dr.lt.2
    obtain ⟨s, r, k5⟩ := HS5.out.ch
    have h3 := k5.lt
    exact ⟨rfl, e2, by omega, by omega⟩)
   have HF2 := Lib.hid f2
   clear hof hb6 f1 f2 HFu HS5
   obtain ⟨nl, hnl⟩ : ∃ nl, l.length = nl := ⟨_, rfl⟩
   rw [hnl] at HF1 ⊢
   have HNl := Lib.hid hnl
   have HLn := Lib.hid (show (lnk T u).length = nl by rw [HGu.out, List.length_map]; exact hnl)
   clear hnl
   have hgk : (lnk T u).length = nl := HLn.out
   have hnl3 : nl ≤ 20000 := by
    have := lnk_length T u
    have := HM.out
    omega
   clear hgk
   go_wp2_with fail
   go_loopg [30] nl (fun gi si wr => ∃ (i : Nat) (D : Nat → Int) (q : List Nat), i + gi = nl ∧ si = .int .i64 i ∧ Hid (k < q.length ∧ q[k]? = some u) ∧ Hid (Bs (lnk T) m st D q k i) ∧ Hid (Sw w bd c m D (q.drop (k + 1)) false wr) ∧ Hid (Agr bd c W6 wr))
   case atStart => exact ⟨0, D, q, by omega, rfl, HKq, HI, HS6, Lib.hid (Agr.refl _ _ _)⟩
   case round =>
    clear HI HS6 HKq hlt hkq hqm
    obtain ⟨i, D, q, hgi, rfl, HKq, HI, HS, HA⟩ := hrel
    obtain ⟨hkq, hqu⟩ := HKq.out
    obtain ⟨_, hqu'⟩ := List.getElem?_eq_some_iff.1 hqu
    by_cases hil : i < nl
    ·obtain ⟨rfl, hgf1, hgf2, hgf3⟩ := HF1.out (by omega)
     have hill : i < l.length := by rw [HNl.out]; exact hil
     have hil2 : i < (lnk T u).length := by rw [HLn.out]; exact hil
     obtain ⟨d0, d1, d2⟩ := HF2.out i hill
     have e0 := (HA.out.cell (i := i * 3) hgf1 hgf2 hgf3).trans d0
     have e1 := (HA.out.cell (i := i * 3 + 1) hgf1 hgf2 hgf3).trans d1
     have e2 := (HA.out.cell (i := i * 3 + 2) hgf1 hgf2 hgf3).trans d2
     clear d0 d1 d2
     have hlv : (lnk T u)[i] = l[i].2 := by
      have e : (lnk T u)[i]? = (l.map (·.2))[i]? := by rw [HGu.out]
      rw [List.getElem?_eq_getElem hil2, List.getElem?_map, List.getElem?_eq_getElem hill] at e
      injection e
     have hvm : l[i].2 < m := by rw [← hlv]; exact HT.out u _ (List.getElem_mem hil2)
     have HSk := Lib.hid (fun h => by have := HI.out.skip hkq (by rw [hqu']; exact hil2); simp only [hqu', hlv] at this; exact this h)
     have HAd := Lib.hid (fun h => by have := HI.out.add HT.out hkq (by rw [hqu']; exact hil2); simp only [hqu', hlv] at this; exact this h)
     obtain ⟨x, y, v, hxyv⟩ : ∃ x y v, l[i] = ((x, y), v) := ⟨_, _, _, rfl⟩
     rw [hxyv] at e0 e1 e2 hvm HSk HAd
     simp only at e0 e1 e2 hvm HSk HAd
     clear hlv hxyv
     have hum : u < m := HI.out.lt _ (hqu' ▸ List.getElem_mem hkq)
     have HBx := Lib.hid (At3I.new wr x y (v : Int))
     have HSb := Lib.hid (HS.out.on (below_alloc1 wr (.cells #[.int .i64 x, .int .i64 y, .int .i64 (v : Int)] 69)))
     have HAb := Lib.hid (HA.out.on (below_alloc1 wr (.cells #[.int .i64 x, .int .i64 y, .int .i64 (v : Int)] 69)))
     have hzb : bd < wr.heap.size := HS.out.dr.lt.2
     have HNe := Lib.hid (show wr.heap.size ≠ bd ∧ wr.heap.size ≠ c from by
      obtain ⟨s, r, k5⟩ := HS.out.ch
      have := k5.lt
      omega)
     have hiI : (i : Int) < (nl : Int) := by omega
     clear hil2 hill hzb
     go_upto_region 11 with fail
     generalize wr.alloc (.cells #[.int .i64 x, .int .i64 y, .int .i64 (v : Int)] 69) = Wb at HBx HSb HAb ⊢
     generalize wr.heap.size = p at HBx HNe ⊢
     clear e0 e1 e2 HS HA
     have cb := HBx.out.c2
     have cv := HSb.out.dr.cell hvm
     have hx0 := HI.out.ge v
     have hvI : (v : Int) < (m : Int) := by omega
     by_cases hneg : D v < 0
     ·have hD1 : D v = -1 := by omega
      rw [hD1] at cv
      have cu := HSb.out.dr.cell hum
      have hy1 := HI.out.bnd k hkq
      have hy0 : 0 ≤ D u := by obtain ⟨n, e, _⟩ := HI.out.mem u (hqu' ▸ List.getElem_mem hkq); omega
      rw [hqu'] at hy1
      have hqm := HI.out.length
      have HA2 := Lib.hid (HAd.out hneg)
      have hne : u ≠ v := by rintro rfl; omega
      obtain ⟨y2, hy2⟩ : ∃ y2, D u = y2 := ⟨_, rfl⟩
      rw [hy2] at cu hy1 hy0 HA2
      obtain ⟨y1, hw⟩ : ∃ y1, IntKind.i64.wrap (y2 + 1) = y1 := ⟨_, rfl⟩
      have hwe : y1 = y2 + 1 := by rw [← hw, IntKind.wrap_i64]; omega
      rw [← hwe] at HA2
      have HKn := Lib.hid (show k < (q ++ [v]).length ∧ (q ++ [v])[k]? = some u from ⟨by rw [List.length_append]; omega, by rw [List.getElem?_append_left hkq]; exact hqu⟩)
      have HLq := Lib.hid (show (natV (q.drop (k + 1))).toArray.size < m by
       simp only [List.size_toArray, natV_length, List.length_drop]; omega)
      have HDr := Lib.hid (show q.drop (k + 1) ++ [v] = (q ++ [v]).drop (k + 1) from (List.drop_append_of_le_length (by omega)).symm)
      have huI : (u : Int) < (m : Int) := by omega
      have hf := HSb.out.dr.froz v
      have HS2 := Lib.hid (HSb.out.set hvm y1).drew
      have HB2 := Lib.hid (show At3I (Wb.setCell ⟨bd, v, none⟩ (.int .i64 y1)).drew p x y (v : Int) from HBx.out.set HNe.out.1 _ _)
      have HA3 := Lib.hid (show Agr bd c W6 (Wb.setCell ⟨bd, v, none⟩ (.int .i64 y1)).drew from HAb.out.set _ _)
      have c1 := HB2.out.c2
      have c3 : (Wb.setCell ⟨bd, v, none⟩ (.int .i64 y1)).drew.cell? ⟨bd, u, none⟩ = some (.int .i64 y2) := (HS2.out.dr.cell hum).trans (by rw [upd_other hne, hy2])
      clear HSk HAd hx0 hy1 hy0 hwe hqm hy2 hqu hqu' hkq HKq hgg
      go_upto_region 12 with fail
      refine wp_region_noPanic ?_
      refine wp_region_held_drew (S := (fun w' => w'.cell? ⟨p, 2, none⟩ = some (.int .i64 (v : Int)) ∧ w'.cell? ⟨bd, u, none⟩ = some (.int .i64 y2))) (by kernel_rfl) (⟨cb, cu⟩) (fun hHeld => ?_)
      refine wpAnyH_take (i := 0) (v := ?_) rfl (by kernel_rfl) (by kernel_rfl) (by kernel_rfl) (fun _ _ _ h => h) (Or.inl ⟨by rfl, ?_⟩) (by assumption) ?_
      rotate_left
      ·(intro w' hS; (try dsimp only at hS); go_simp; try with_reducible rfl)
      try simp only [Act.put, List.getElem_toArray, List.getElem_cons_succ, List.getElem_cons_zero, List.setIfInBounds_toArray, List.set_cons_zero, List.set_cons_succ]
      refine wpAnyH_take (i := 1) (v := ?_) rfl (by kernel_rfl) (by kernel_rfl) (by kernel_rfl) (fun _ _ _ h => h) (Or.inl ⟨by rfl, ?_⟩) (by assumption) ?_
      rotate_left
      ·(intro w' hS; (try dsimp only at hS); go_simp; try with_reducible rfl)
      try simp only [Act.put, List.getElem_toArray, List.getElem_cons_succ, List.getElem_cons_zero, List.setIfInBounds_toArray, List.set_cons_zero, List.set_cons_succ]
      refine wpAnyH_take (i := 2) (v := ?_) rfl (by kernel_rfl) (by kernel_rfl) (by kernel_rfl) (fun _ _ _ h => h) (Or.inl ⟨by rfl, ?_⟩) (by assumption) ?_
      rotate_left
      ·(intro w' hS; (try dsimp only at hS); go_simp; try with_reducible rfl)
      try simp only [Act.put, List.getElem_toArray, List.getElem_cons_succ, List.getElem_cons_zero, List.setIfInBounds_toArray, List.set_cons_zero, List.set_cons_succ]
      refine wpAnyH_take (i := 3) (v := ?_) rfl (by kernel_rfl) (by kernel_rfl) (by kernel_rfl) (fun _ _ _ h => h) (Or.inl ⟨by rfl, ?_⟩) (by assumption) ?_
      rotate_left
      ·(intro w' hS; (try dsimp only at hS); go_simp; try with_reducible rfl)
      try simp only [Act.put, List.getElem_toArray, List.getElem_cons_succ, List.getElem_cons_zero, List.setIfInBounds_toArray, List.set_cons_zero, List.set_cons_succ]
      refine wpAnyH_take (i := 4) (v := ?_) rfl (by kernel_rfl) (by kernel_rfl) (by kernel_rfl) (fun _ _ _ h => h) (Or.inl ⟨by rfl, ?_⟩) (by assumption) ?_
      rotate_left
      ·(intro w' hS; (try dsimp only at hS); go_simp; try with_reducible rfl)
      try simp only [Act.put, List.getElem_toArray, List.getElem_cons_succ, List.getElem_cons_zero, List.setIfInBounds_toArray, List.set_cons_zero, List.set_cons_succ]
      refine wpAnyH_take (i := 5) (v := ?_) rfl (by kernel_rfl) (by kernel_rfl) (by kernel_rfl) (fun _ _ _ h => h) (Or.inl ⟨by rfl, ?_⟩) (by assumption) ?_
      rotate_left
      ·(intro w' hS; (try dsimp only at hS); go_simp; try with_reducible rfl)
      try simp only [Act.put, List.getElem_toArray, List.getElem_cons_succ, List.getElem_cons_zero, List.setIfInBounds_toArray, List.set_cons_zero, List.set_cons_succ]
      refine wpAnyH_take (i := 6) (v := ?_) rfl (by kernel_rfl) (by kernel_rfl) (by kernel_rfl) (fun _ _ _ h => h) (Or.inl ⟨by rfl, ?_⟩) (by assumption) ?_
      rotate_left
      ·(intro w' hS; (try dsimp only at hS); go_simp; try with_reducible rfl)
      try simp only [Act.put, List.getElem_toArray, List.getElem_cons_succ, List.getElem_cons_zero, List.setIfInBounds_toArray, List.set_cons_zero, List.set_cons_succ]
      refine wpAnyH_take (i := 7) (v := ?_) rfl (by kernel_rfl) (by kernel_rfl) (by kernel_rfl) (fun _ _ _ h => h) (Or.inl ⟨by rfl, ?_⟩) (by assumption) ?_
      rotate_left
      ·(intro w' hS; (try dsimp only at hS); go_simp; try with_reducible rfl)
      try simp only [Act.put, List.getElem_toArray, List.getElem_cons_succ, List.getElem_cons_zero, List.setIfInBounds_toArray, List.set_cons_zero, List.set_cons_succ]
      refine wpAnyH_take (i := 8) (v := ?_) rfl (by kernel_rfl) (by kernel_rfl) (by kernel_rfl) (fun _ _ _ h => h) (Or.inl ⟨by rfl, ?_⟩) (by assumption) ?_
      rotate_left
      ·(intro w' hS; (try dsimp only at hS); go_simp; try with_reducible rfl)
      try simp only [Act.put, List.getElem_toArray, List.getElem_cons_succ, List.getElem_cons_zero, List.setIfInBounds_toArray, List.set_cons_zero, List.set_cons_succ]
      refine wpAnyH_ready (rs := [9]) (by kernel_rfl) (by simp) ?_
      refine AllReadyH.cons rfl (fun K hK => ?_) AllReadyH.nil
      have cx2 : Wb.drew.cell? ⟨bd, v, none⟩ = some (.int .i64 (-1)) := cv
      have hf2 : Wb.drew.frozen? ⟨bd, v, none⟩ = false := hf
      go_simp
      clear cv cx2 hf hf2 cb cu
      generalize (Wb.setCell ⟨bd, v, none⟩ (.int .i64 y1)).drew = W9 at HS2 HB2 HA3 c1 c3 ⊢
      refine hK.out _ _ (⟨c1, c3⟩) (fun hHeld => ?_)
      clear hK K hHeld c3 hw
      try simp only [Act.put, List.getElem_toArray, List.getElem_cons_succ, List.getElem_cons_zero, List.setIfInBounds_toArray, List.set_cons_zero, List.set_cons_succ]
      refine wpAnyH_done (by kernel_rfl) ?_ _
      refine NoPanic.normal ?_
      obtain ⟨s, r, hch⟩ := HS2.out.ch
      have HCh := Lib.hid hch
      have HS3 := Lib.hid (HS2.out.chan (q.drop (k + 1) ++ [v]) false (s + 1) r)
      have HA4 := Lib.hid (HA3.out.chan m (natV (q.drop (k + 1) ++ [v])).toArray false (s + 1) r false)
      clear hch
      go_upto_region 13 with fail
      refine wp_of_led ?_
      show Led _ _ _ [0, 1, 2, 3] _ _
      refine led_val (v := .chan (some c)) (w' := W9) rfl rfl (by go_simp) ?_
      try simp only [Act.put, List.getElem_toArray, List.getElem_cons_succ, List.getElem_cons_zero, List.setIfInBounds_toArray, List.set_cons_zero, List.set_cons_succ]
      refine led_val (v := .pointer (some ⟨p, 2, none⟩)) (w' := W9) rfl rfl (by go_simp) ?_
      try simp only [Act.put, List.getElem_toArray, List.getElem_cons_succ, List.getElem_cons_zero, List.setIfInBounds_toArray, List.set_cons_zero, List.set_cons_succ]
      refine led_val (v := .int .i64 (v : Int)) (w' := W9) rfl rfl (by go_simp) ?_
      try simp only [Act.put, List.getElem_toArray, List.getElem_cons_succ, List.getElem_cons_zero, List.setIfInBounds_toArray, List.set_cons_zero, List.set_cons_succ]
      refine led_send rfl rfl (c := c) (v := .int .i64 (v : Int)) (z := .tuple #[]) (by simp [execOp, scase, Act.eval]) HCh.out HLq.out ?_
      try simp only [Act.put, List.getElem_toArray, List.getElem_cons_succ, List.getElem_cons_zero, List.setIfInBounds_toArray, List.set_cons_zero, List.set_cons_succ]
      rw [show (natV (q.drop (k + 1))).toArray.push (.int .i64 (v : Int)) = (natV (q.drop (k + 1) ++ [v])).toArray by rw [natV_snoc]; simp]
      generalize W9.setChan c m (natV (q.drop (k + 1) ++ [v])).toArray false (s + 1) r false = W10 at HS3 HA4 ⊢
      rw [HDr.out] at HS3
      clear HCh HS2 HB2 HA3 c1 HLq HDr
      refine led_end ?_
      go_wp2_with fail
      go_roundg (gk - 1)
      case measure => omega
      case rel => exact ⟨i + 1, upd D v y1, q ++ [v], by omega, by go_num, HKn, HA2, HS3, HA4⟩
     ·have HSn := Lib.hid (HSk.out (by omega))
      have hD1 : ¬ D v = -1 := by omega
      obtain ⟨x0, hx⟩ : ∃ x0, D v = x0 := ⟨_, rfl⟩
      rw [hx] at cv hD1
      have HKn := Lib.hid (show k < q.length ∧ q[k]? = some u from ⟨hkq, hqu⟩)
      clear hx HSk HAd hx0 hneg hqu hqu' hkq HKq hgg
      go_wp2
      go_roundg (gk - 1)
      case measure => omega
      case rel => exact ⟨i + 1, D, q, by omega, by go_num, HKn, HSn, HSb, HAb⟩
    ·obtain rfl : i = nl := by omega
     have HI2 := Lib.hid (HI.out.next hkq (by rw [hqu', HLn.out]; exact Nat.le_refl _))
     obtain ⟨s, r, hch⟩ := HS.out.ch
     have hln := fun ty => run_len_ch (P := Tryz.prog) 95 ty Tryz.underlying95 hch
     have hcl := fun ats ty => run_close_open (P := Tryz.prog) ats ty hch
     have hz : ((natV (q.drop (k + 1))).toArray.size) = q.length - (k + 1) := by simp only [List.size_toArray, natV_length, List.length_drop]
     have HS3 := Lib.hid (HS.out.chan (q.drop (k + 1)) true s r)
     rw [hz] at hln
     have hqm := HI.out.length
     clear hz hch HA hqu hqu' HKq HI
     by_cases hlast : k + 1 < q.length
     ·obtain ⟨z, hz⟩ : ∃ z, q.length - (k + 1) = z := ⟨_, rfl⟩
      rw [hz] at hln
      have hz0 : ¬ ((z : Nat) : Int) = 0 := by omega
      clear hz hcl HS3
      go_wp2
      go_roundg (m + 1 - (k + 1))
      case measure => omega
      case rel => exact ⟨k + 1, D, q, false, by omega, by omega, Lib.hid (.inl ⟨hlast, rfl⟩), HI2, HS⟩
     ·rw [show q.length - (k + 1) = 0 by omega] at hln
      have hql : k + 1 = q.length := by omega
      have HKl := Lib.hid hql
      clear hql
      go_wp2
      go_roundg (m + 1 - (k + 1))
      case measure => omega
      case rel => exact ⟨k + 1, D, q, true, by omega, by omega, Lib.hid (.inr ⟨HKl.out, rfl⟩), HI2, HS3⟩
  ·obtain ⟨s, r, hch⟩ := HS.out.ch
   rw [List.drop_length] at hch
   have HCh := Lib.hid (show wr.heap[c]? = some (.chan m #[] true s r false) from hch)
   have HF := Lib.hid (fun v => HI.out.fin (Nat.le_refl _) v)
   have HDm := Lib.hid (show ∀ v, D v ≤ (m : Int) from fun v => by
    by_cases hv : v ∈ q
    ·obtain ⟨a, ha, e⟩ := List.getElem_of_mem hv
     have := HI.out.bnd a ha
     rw [e] at this; omega
    ·rw [HI.out.non v hv]; omega)
   have HD := Lib.hid HS.out.dr
   have HB := Lib.hid HS.out.bel
   clear HI HS hch
   go_upto_region 6 with fail
   refine wp_of_led ?_
   show Led _ _ _ [0, 1] _ _
   refine led_shut true rfl rfl (c := c) (z := .int .i64 0) (by simp [go_sem, rcase]) HCh.out ?_
   simp only [got, if_true]
   try simp only [Act.put, List.getElem_toArray, List.getElem_cons_succ, List.getElem_cons_zero, List.setIfInBounds_toArray, List.set_cons_zero, List.set_cons_succ]
   refine led_val (v := .bool false) (w' := wr) rfl rfl (by go_simp) ?_
   try simp only [Act.put, List.getElem_toArray, List.getElem_cons_succ, List.getElem_cons_zero, List.setIfInBounds_toArray, List.set_cons_zero, List.set_cons_succ]
   refine led_end ?_
   go_wp2_with fail
   go_ret
   exact ⟨bd, D, rfl, HD.out, HF.out, HDm.out, HB.out⟩
end Go.Proofs.YtmenmepdmojnfaaGreatDoor.Wg
