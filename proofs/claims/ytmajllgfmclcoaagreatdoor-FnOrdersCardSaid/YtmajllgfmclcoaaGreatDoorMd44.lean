/- Lnk in one text. -/
import Derived.Test.YtmajllgfmclcoaaGreatDoorMd29
import Derived.Test.YtmajllgfmclcoaaGreatDoorMd40
import Derived.Test.YtmajllgfmclcoaaGreatDoorMd43
import Derived.Test.YtmajllgfmclcoaaGreatDoorMd27
import Derived.Test.YtmajllgfmclcoaaGreatDoorMd21
import Derived.Deep.LoopGhost
import Derived.Deep.RegionHeld3
import Derived.Deep.Cut
set_option linter.unusedVariables false
set_option linter.unusedSimpArgs false
set_option maxRecDepth 100000
namespace Go.Proofs.YtmajllgfmclcoaaGreatDoor.Wg
open Go.RowKit Cels Dms Til Dss Flp Go.Joins
open Sam (sameD sSame)
open Lis (append_any)
open Reg (own_below own_base intInfo)
theorem lssInfo : (Tryz.prog.info? 24).map (fun i => (i.zero, i.size, i.bytes)) = some (some (.slice none 0 0), 1, 24) := by kernel_rfl
def nxtTo (all : List (List Dm)) (X : List Dm) (j : Nat) : List Nat := (List.range j).filter fun t => decide (all[t]? = some X)
theorem nxtTo_all (all : List (List Dm)) (X : List Dm) : nxtTo all X all.length = nxt all X := rfl
theorem nxtTo_yes {all : List (List Dm)} {X : List Dm} {j : Nat} (hj : j < all.length) (h : all[j] = X) : nxtTo all X (j + 1) = nxtTo all X j ++ [j] := by
 unfold nxtTo
 rw [List.range_succ, List.filter_append, List.filter_cons, if_pos (by rw [decide_eq_true_eq, List.getElem?_eq_getElem hj, h])]; rfl
theorem nxtTo_no {all : List (List Dm)} {X : List Dm} {j : Nat} (hj : j < all.length) (h : all[j] ≠ X) : nxtTo all X (j + 1) = nxtTo all X j := by
 unfold nxtTo
 rw [List.range_succ, List.filter_append, List.filter_cons, if_neg (by rw [decide_eq_true_eq, List.getElem?_eq_getElem hj]; intro e; injection e with e; exact h e)]
 simp
theorem nxtTo_length (all : List (List Dm)) (X : List Dm) (j : Nat) : (nxtTo all X j).length ≤ j := by
 unfold nxtTo
 have := List.length_filter_le (fun t => decide (all[t]? = some X)) (List.range j)
 rwa [List.length_range] at this
def lnkTo (all : List (List Dm)) (L : List Dm) (i : Nat) : List Nat := ((flipsR L).take i).flatMap fun c => nxt all (flipL L c.1 c.2)
theorem lnkTo_step {all : List (List Dm)} {L : List Dm} {i : Nat} (hi : i < (flipsR L).length) : lnkTo all L (i + 1) = lnkTo all L i ++ nxt all (flipL L (flipsR L)[i].1 (flipsR L)[i].2) := by
 unfold lnkTo
 rw [List.take_succ_eq_append_getElem hi, List.flatMap_append]
 simp
theorem lnkTo_all {all : List (List Dm)} {k : Nat} (hk : k < all.length) : lnkTo all all[k] (flipsR all[k]).length = lnk all k := by
 unfold lnkTo lnk
 rw [List.take_length, getD_at hk]
theorem lnkTo_length (all : List (List Dm)) (L : List Dm) : ∀ i, (lnkTo all L i).length ≤ i * all.length := by
 intro i
 induction i with
 | zero => simp [lnkTo]
 | succ i ih =>
  by_cases hi : i < (flipsR L).length
  ·rw [lnkTo_step hi, List.length_append]
   have := nxtTo_length all (flipL L (flipsR L)[i].1 (flipsR L)[i].2) all.length
   rw [nxtTo_all] at this
   rw [Nat.succ_mul]; omega
  ·unfold lnkTo at ih ⊢
   rw [List.take_of_length_le (by omega)]
   rw [List.take_of_length_le (by omega)] at ih
   rw [Nat.succ_mul]; omega
def Fin (W : World) (lo B go : Nat) (R : List Value) (ls : Nat → List Nat) : Prop := ∀ j, j < R.length → ∃ s c, R[j]? = some (.slice s (ls j).length c) ∧ RdN W B s (ls j) ∧ ∀ a, s = some a → a.block ≠ go ∧ a.block < B ∧ lo ≤ a.block
theorem Fin.below {W W' : World} {lo B B' go : Nat} {R : List Value} {ls : Nat → List Nat} (h : Fin W lo B go R ls) (hb : Below B' W W') (hB : B ≤ B') : Fin W' lo B go R ls := fun j hj => by
 obtain ⟨s, c, h1, h2, h3⟩ := h j hj
 exact ⟨s, c, h1, h2.below hb hB, h3⟩
theorem Fin.mono {W : World} {lo B B' go : Nat} {R : List Value} {ls : Nat → List Nat} (h : Fin W lo B go R ls) (hB : B ≤ B') : Fin W lo B' go R ls := fun j hj => by
 obtain ⟨s, c, h1, h2, h3⟩ := h j hj
 exact ⟨s, c, h1, h2.mono hB, fun a ha => ⟨(h3 a ha).1, Nat.lt_of_lt_of_le (h3 a ha).2.1 hB, (h3 a ha).2.2⟩⟩
theorem Fin.rdl {W : World} {lo B go m : Nat} {R : List Value} {ls : Nat → List Nat} (h : Fin W lo B go R ls) (hR : R.length = m) (hgo : go < B) (hc : ∀ j v, R[j]? = some v → W.cell? ⟨go, j, none⟩ = some v) : RdL W B (some ⟨go, 0, none⟩) m ls :=
 ⟨go, fun _ => ⟨rfl, hgo⟩, fun k hk => by
  obtain ⟨s, c, h1, h2, _⟩ := h k (by omega)
  exact ⟨s, c, hc k _ h1, h2⟩⟩
theorem RdN.kept {w w' : World} {B g : Nat} {A : Option Addr} {l : List Nat} (h : RdN w B A l) (hg : w.grownBy w' (some g)) (hne : ∀ a, A = some a → a.block ≠ g) (hB : B ≤ w.heap.size) : RdN w' B A l := by
 obtain ⟨b, h1, h2⟩ := h
 refine ⟨b, h1, fun i hi => ?_⟩
 obtain ⟨e, hb⟩ := h1 (by omega)
 exact (World.cell?_of_block (a := ⟨b, i, none⟩) (hg.block b (by omega) (fun q => by injection q with q; exact hne _ e q))).trans (h2 i hi)
theorem Fin.add {W W' : World} {lo B go go' : Nat} {R : List Value} {ls : Nat → List Nat} (h : Fin W lo B go R ls) (hB : B ≤ W.heap.size) (hg : W.grownBy W' (some go)) (hgo : go' = go ∨ B ≤ go')
  {sl : Option Addr} {cl : Nat} (hl : RdN W B sl (ls R.length)) (hn : ∀ a, sl = some a → a.block ≠ go ∧ a.block < B ∧ lo ≤ a.block) : Fin W' lo B go' (R ++ [.slice sl (ls R.length).length cl]) ls := by
 intro j hj
 by_cases e : j < R.length
 ·obtain ⟨s, c, h1, h2, h3⟩ := h j e
  refine ⟨s, c, by rw [List.getElem?_append_left e]; exact h1, h2.kept hg (fun a ha => (h3 a ha).1) hB, fun a ha => ?_⟩
  have := h3 a ha
  rcases hgo with q | q
  ·rw [q]; exact this
  ·exact ⟨by omega, this.2⟩
 ·have e2 : j = R.length := by rw [List.length_append, List.length_singleton] at hj; omega
  subst e2
  refine ⟨sl, cl, by rw [List.getElem?_append_right NR]; simp, hl.kept hg (fun a ha => (hn a ha).1) hB, fun a ha => ?_⟩
  have := hn a ha
  rcases hgo with q | q
  ·rw [q]; exact this
  ·exact ⟨by omega, this.2⟩
theorem own_kept2 {w w' : World} {base e size n g : Nat} {v : Value} {xs : List Value} (h : w.ownsRow base e size v n xs) (hg : w.grownBy w' (some g)) (hb : g < base) : w'.ownsRow base e size v n xs :=
 h.kept hg (by
  cases hv : v.ownBlock with
  | none => exact .inl rfl
  | some q => right; intro e; injection e with e; have := (h.lt q hv).1; omega)
theorem grown_two {a b c : World} {g0 g : Nat} (h : a.grownBy b (some g0)) (k : b.grownBy c (some g)) (hg : g = g0 ∨ a.heap.size ≤ g) : a.grownBy c (some g0) :=
 ⟨k.os.trans h.os, k.tape.trans h.tape, k.output.trans h.output, Nat.le_trans h.size k.size, fun j hj hne => (k.block j (Nat.lt_of_lt_of_le hj h.size) (fun e => by
  injection e with e
  rcases hg with q | q
  ·exact hne (by rw [e, q])
  ·omega)).trans (h.block j hj hne)⟩
theorem grown_bel {w W : World} {g : Nat} (h : Below w.heap.size w W) : w.grownBy W (some g) := ⟨h.os, h.tape, h.output, h.size, fun k hk _ => h.block k hk⟩
def LoL (w : World) (lo : Nat) (A : Option Addr) (m : Nat) : Prop := (∀ a, A = some a → lo ≤ a.block) ∧ ∀ b, A = some ⟨b, 0, none⟩ → ∀ k, k < m → ∀ s n c, w.cell? ⟨b, k, none⟩ = some (.slice s n c) → ∀ a, s = some a → lo ≤ a.block
theorem Fin.lol {W : World} {lo B go m : Nat} {R : List Value} {ls : Nat → List Nat} (h : Fin W lo B go R ls) (hR : R.length = m) (hgo : lo ≤ go) (hc : ∀ j v, R[j]? = some v → W.cell? ⟨go, j, none⟩ = some v) : LoL W lo (some ⟨go, 0, none⟩) m := by
 refine ⟨fun a ha => by injection ha with ha; subst ha; exact hgo, fun b hb k hk s n c e a ha => ?_⟩
 injection hb with hb
 injection hb with hb
 subst hb
 obtain ⟨s', c', h1, _, h3⟩ := h k (by omega)
 rw [hc k _ h1] at e
 injection e with e
 injection e with e1
 subst e1
 exact (h3 a ha).2.2
def LkP (all : List (List Dm)) (m : Nat) (w : World) (e : Ending) (w' : World) : Prop := ∃ A cap, e = .returned (.slice A m cap) ∧ RdL w' w'.heap.size A m (lnk all) ∧ LoL w' w.heap.size A m ∧ Below w.heap.size w w'
set_option maxHeartbeats 8000000 in
theorem sLinks (w : World) (A : Option Addr) (m cap B h : Nat) (all : List (List Dm)) (hm : all.length = m) (hm2 : m ≤ 100000) (hh : ∀ x ∈ all, x.length = h) (hh2 : h ≤ 100000) (hr : RowSS w B A m h all) (hB : B ≤ w.heap.size) :
  Calls Tryz.prog 37 #[.slice A m cap] w (LkP all m w) := by
 obtain ⟨i0, hi, hz0, hz1, hz2⟩ := info_parts intInfo
 obtain ⟨j0, hj0, hy0, hy1, hy2⟩ := info_parts lssInfo
 obtain ⟨b, T, s1, s2, s3⟩ := hr
 have HB2 := Lh (fun (h0 : 0 < m) => s2 h0)
 have HM := Lh hm
 have HH := Lh hh
 have HAt := Lh (show ∀ W, Below w.heap.size w W → ∀ k (hk : k < all.length), ∃ s c, (∀ W', Below w.heap.size w W' → W'.cell? ⟨b, k, none⟩ = some (.slice s h c) ∧ RowM W' W'.heap.size s all[k]) from fun W _ k hk => by
  have hkT : k < T.length := by omega
  obtain ⟨c1, c2⟩ := s3 k T[k] all[k] (List.getElem?_eq_getElem _) (List.getElem?_eq_getElem hk)
  refine ⟨_, _, fun W' hb => ⟨(hb.cell (p := ⟨b, k, none⟩) (by show b < _; have := (s2 (by omega)).2; omega)).trans c1, (c2.below hb hB).mono (by have := hb.size; omega)⟩⟩)
 have HO0 := Lh (World.ownsRow_made (base := w.heap.size) (e := 24) (size := 1) w #[] 0 NR (by unfold maxLen; omega) rfl)
 have HB1 := Lh (below_alloc1 w (.cells #[] 24))
 clear s1 s2 s3 hm hh
 go_enter Tryz.func37, Tryz.ntmps37
 go_wp2_with fail
 go_loopg [3, 4] m (fun gg so sk wr => ∃ (k go co : Nat) (R : List Value), k + gg = m ∧ sk = .int .i64 k ∧ so = .slice (some ⟨go, 0, none⟩) k co ∧ Hid (R.length = k ∧ wr.ownsRow w.heap.size 24 1 (.slice (some ⟨go, 0, none⟩) k co) k R ∧ Fin wr w.heap.size wr.heap.size go R (lnk all)) ∧ Hid (Below w.heap.size w wr))
 case atStart => exact ⟨0, w.heap.size, 0, [], by omega, rfl, rfl, Lh ⟨rfl, HO0.out, fun j hj => by simp at hj⟩, HB1⟩
 case round =>
  clear HO0 HB1
  obtain ⟨k, go, co, R, hgg, rfl, rfl, HR, HB⟩ := hrel
  by_cases hlt : k < m
  ·obtain ⟨rfl, hbB⟩ := HB2.out (by omega)
   have hkA : k < all.length := by rw [HM.out]; exact hlt
   obtain ⟨sk, ck, hAk⟩ := HAt.out w (Below.refl _ _) k hkA
   have HAk := Lh hAk
   have HLh := Lh (HH.out _ (List.getElem_mem hkA))
   have HLk := Lh (lnkTo_all hkA)
   generalize all[k] = L at hAk HAk HLh HLk
   have ck0 := (hAk wr HB.out).1
   have hkm : (k : Int) < (m : Int) := by omega
   have HFl := Lh (sFlipsOf wr sk h ck wr.heap.size L HLh.out (by omega) (hAk wr HB.out).2 NR)
   have hnf := flipsTo_length L 64
   rw [flipsTo_all] at hnf
   clear hAk
   obtain ⟨nf, hnf2⟩ : ∃ nf, (flipsR L).length = nf := ⟨_, rfl⟩
   have HNf := Lh hnf2
   rw [hnf2] at hnf
   unfold Cels.NbPost at HFl
   rw [hnf2] at HFl
   clear hnf2
   go_wp2_with fail
   refine HFl.out.mono ?_
   rintro e w0 ⟨Af, cf, rfl, hownf, hb0⟩
   have HW0 := Lh (HB.out.trans (hb0.mono HB.out.size))
   obtain ⟨hR1, hR2, hR3⟩ := HR.out
   have HR0 := Lh (show R.length = k ∧ w0.ownsRow w.heap.size 24 1 (.slice (some ⟨go, 0, none⟩) k co) k R ∧ Fin w0 w.heap.size w0.heap.size go R (lnk all) from ⟨hR1, own_below hR2 hb0 NR, (hR3.below hb0 NR).mono hb0.size⟩)
   obtain ⟨bf, off, hfA, hfC⟩ := rowC_own hownf
   have HfA := Lh (fun (h0 : 0 < nf) => hfA (by rw [HNf.out]; exact h0))
   have HfC := Lh (show ∀ W, Below w0.heap.size w0 W → ∀ i (hi : i < (flipsR L).length), W.cell? ⟨bf, off + i * 2, none⟩ = some (.int .i64 (flipsR L)[i].1) ∧ W.cell? ⟨bf, off + i * 2 + 1, none⟩ = some (.int .i64 (flipsR L)[i].2) from fun W hb i hi => by
    obtain ⟨c1, c2⟩ := hfC i _ (List.getElem?_eq_getElem hi)
    have hl := (hfA (by omega)).2
    exact ⟨(hb.cell (p := ⟨bf, off + i * 2, none⟩) hl).trans c1, (hb.cell (p := ⟨bf, off + i * 2 + 1, none⟩) hl).trans c2⟩)
   have HL0 := Lh (World.ownsRow_made (base := w0.heap.size) (e := 3) (size := 1) w0 #[] 0 NR (by unfold maxLen; omega) rfl)
   have HB01 := Lh (below_alloc1 w0 (.cells #[] 3))
   have h00 : (lnkTo all L 0).length = 0 := by simp [lnkTo]
   have h01 : lnkTo all L 0 = [] := by simp [lnkTo]
   clear HFl hownf hb0 hR1 hR2 hR3 hfA hfC HR HB ck0
   go_wp2_with fail
   go_loopg [6, 7] nf (fun gi sl si wr => ∃ (i gl cl : Nat), i + gi = nf ∧ si = .int .i64 i ∧ sl = .slice (some ⟨gl, 0, none⟩) (lnkTo all L i).length cl ∧ Hid (wr.ownsRow w0.heap.size 3 1 (.slice (some ⟨gl, 0, none⟩) (lnkTo all L i).length cl) (lnkTo all L i).length (natV (lnkTo all L i))) ∧ Hid (Below w0.heap.size w0 wr))
   case atStart => exact ⟨0, w0.heap.size, 0, by omega, rfl, by rw [h00], Lh (by rw [h01]; exact HL0.out), HB01⟩
   case round =>
    clear HL0 HB01 h00 h01
    obtain ⟨i, gl, cl, hgi, rfl, rfl, HOl, HBl⟩ := hrel
    by_cases hil : i < nf
    ·obtain ⟨rfl, hbf⟩ := HfA.out (by omega)
     have hiF : i < (flipsR L).length := by rw [HNf.out]; exact hil
     obtain ⟨c1, c2⟩ := HfC.out _ HBl.out i hiF
     have HWr := Lh (HW0.out.trans (HBl.out.mono HW0.out.size))
     have c0 := (HAk.out _ HWr.out).1
     have HSt := Lh (lnkTo_step (all := all) hiF)
     have hln := lnkTo_length all L i
     rw [HM.out] at hln
     have HfI := Lh (fun W hb => HfC.out W hb i hiF)
     generalize (flipsR L)[i] = c at c1 c2 HSt HfI
     obtain ⟨x, y⟩ := c
     simp only at c1 c2 HSt
     have HFa := Lh (fun W (hb : Below w.heap.size w W) => sFlipAt W sk h ck W.heap.size L HLh.out (by omega) (HAk.out W hb).2 NR x y)
     have hXl := flip_len L x y
     rw [HLh.out] at hXl
     generalize flipL L x y = X at HFa hXl HSt
     generalize canB L x y = okc at HFa
     have hkI : (k : Int) < (m : Int) := by omega
     have hiI : (i : Int) < (nf : Int) := by omega
     have hnn : (lnkTo all L i).length ≤ 64 * 100000 := Nat.le_trans hln (Nat.mul_le_mul (by omega) hm2)
     generalize hP : lnkTo all L i = P0 at HOl HSt hnn
     have HPe := Lh hP
     clear hln hP
     go_upto_region 10 with fail
     refine wp_region_noPanic ?_
     refine wp_region_held_drew (S := (fun w' => w'.cell? ⟨b, k, none⟩ = some (.slice sk h ck) ∧ w'.cell? ⟨bf, off + i * 2, none⟩ = some (.int .i64 x) ∧ w'.cell? ⟨bf, off + i * 2 + 1, none⟩ = some (.int .i64 y))) (by kernel_rfl) (⟨c0, c1, c2⟩) (fun hHeld => ?_)
     refine tk 0 ?_; try simp only [Act.put, zk]
     refine tk 1 ?_; try simp only [Act.put, zk]
     refine tk 2 ?_; try simp only [Act.put, zk]
     refine tk 3 ?_; try simp only [Act.put, zk]
     refine tk 4 ?_; try simp only [Act.put, zk]
     refine tk 5 ?_; try simp only [Act.put, zk]
     refine tk 6 ?_; try simp only [Act.put, zk]
     refine tk 7 ?_; try simp only [Act.put, zk]
     refine tr 8 fun K hK => ?_
     go_simp
     refine (HFa.out _ HWr.out.drew).mono ?_
     rintro e wx ⟨Ax, cx, rfl, _, hownx, hbx⟩
     have hbx2 : Below wr.heap.size wr wx := (Below.refl wr.heap.size wr).drew.trans hbx
     have HWx := Lh (HWr.out.trans (hbx2.mono HWr.out.size))
     have HBx := Lh (HBl.out.trans (hbx2.mono HBl.out.size))
     have HOx := Lh (own_below HOl.out hbx2 NR)
     have HXo := Lh (show wx.ownsRow wr.heap.size 63 3 (.slice Ax X.length cx) X.length (rowM X) from hownx)
     have hglw := (HOl.out.lt gl rfl)
     have hszx := hbx2.size
     obtain ⟨q1, q2⟩ := HfI.out _ HBx.out
     have q0 := (HAk.out _ HWx.out).1
     clear hownx hbx hbx2 c0 c1 c2 HFa HOl HBl
     go_wp2_with fail
     refine hK.out _ _ (⟨q0, q1, q2⟩) (fun hHeld => ?_)
     clear hK K
     try simp only [Act.put, zk]
     refine tk 9 ?_; try simp only [Act.put, zk]
     refine tk 10 ?_; try simp only [Act.put, zk]
     refine tk 11 ?_; try simp only [Act.put, zk]
     refine tk 12 ?_; try simp only [Act.put, zk]
     refine tk 13 ?_; try simp only [Act.put, zk]
     refine wpAnyH_done (by kernel_rfl) (NoPanic.normal ?_) _
     clear hHeld q0 q1 q2
     obtain ⟨lx, hlx⟩ : ∃ lx, X.length = lx := ⟨_, rfl⟩
     rw [hlx] at HXo hXl ⊢
     have HLx := Lh hlx
     have hglW := HOx.out.lt gl rfl
     have hw0 := HW0.out.size
     have hn0 : (P0 ++ nxtTo all X 0) = P0 := by simp [nxtTo]
     clear hlx
     go_wp2_with fail
     go_loopg [6, 10] m (fun gj sl sj wr2 => ∃ (j g c : Nat), j + gj = m ∧ sj = .int .i64 j ∧ sl = .slice (some ⟨g, 0, none⟩) (P0 ++ nxtTo all X j).length c ∧ Hid (wr2.ownsRow w0.heap.size 3 1 (.slice (some ⟨g, 0, none⟩) (P0 ++ nxtTo all X j).length c) (P0 ++ nxtTo all X j).length (natV (P0 ++ nxtTo all X j))) ∧ Hid (wx.grownBy wr2 (some gl)) ∧ Hid (g = gl ∨ wx.heap.size ≤ g))
     case atStart => exact ⟨0, gl, cl, by omega, rfl, by rw [hn0], Lh (by rw [hn0]; exact HOx.out), Lh (World.grownBy.refl _ _), Lh (.inl rfl)⟩
     case round =>
      clear HOx hn0
      obtain ⟨j, g, c, hgj, rfl, rfl, HOg, HG, HGG⟩ := hrel
      have HW2 := Lh (HWx.out.grown HG.out HWx.out.size (fun g e => by injection e with e; omega))
      have HX2 := Lh (rowM_own (own_kept2 HXo.out HG.out hglw.2))
      by_cases hjm : j < m
      ·have hjA : j < all.length := by rw [HM.out]; exact hjm
       obtain ⟨sj, cj, hAj⟩ := HAt.out w (Below.refl _ _) j hjA
       have d0 := (hAj wr HW2.out).1
       have HSm := Lh (sSame wr sj Ax h lx cj cx wr.heap.size wr.heap.size all[j] X (HH.out _ (List.getElem_mem hjA)) HLx.out (by omega) (by omega) (hAj wr HW2.out).2 HX2.out NR NR)
       have HYs := Lh (fun h => nxtTo_yes (X := X) hjA h)
       have HNo := Lh (fun h => nxtTo_no (X := X) hjA h)
       have HDd := Lh (show sameD all[j] X = decide (all[j] = X) from rfl)
       have hlen := nxtTo_length all X j
       have hjI : (j : Int) < (m : Int) := by omega
       generalize sameD all[j] X = r at HSm HDd
       have HY2 := Lh (fun (h : r = true) => HYs.out (of_decide_eq_true (HDd.out.symm.trans h)))
       have HN2 := Lh (fun (h : r = false) => HNo.out (of_decide_eq_false (HDd.out.symm.trans h)))
       obtain ⟨N0, hN0⟩ : ∃ N0, P0 ++ nxtTo all X j = N0 := ⟨_, rfl⟩
       have HN0 := Lh hN0
       have hlN : N0.length ≤ 64 * 100000 + 100000 := by rw [← hN0, List.length_append]; omega
       rw [hN0] at HOg ⊢
       obtain ⟨n0, hn0⟩ : ∃ n0, N0.length = n0 := ⟨_, rfl⟩
       have Hn0 := Lh hn0
       rw [hn0] at HOg hlN ⊢
       clear hAj HYs HNo HDd hN0 hlen hn0
       go_wp2_with fail
       refine HSm.out.mono ?_
       rintro e w3 ⟨rfl, hb3⟩
       have HO3 := Lh (own_below HOg.out hb3 NR)
       have HG3 := Lh (grown_two HG.out (grown_bel (g := gl) hb3) (.inl rfl))
       clear hb3 HSm HOg HG HX2 d0
       cases r with
       | false =>
        have HE := Lh (HN2.out rfl)
        clear HY2 HN2
        go_wp2
        go_roundg (gk - 1)
        case measure => omega
        case rel => exact ⟨j + 1, g, c, by omega, by go_num, by rw [HE.out, HN0.out, Hn0.out], Lh (by rw [HE.out, HN0.out, Hn0.out]; exact HO3.out), HG3, HGG⟩
       | true =>
        have HE := Lh (HY2.out rfl)
        clear HY2 HN2
        have hb30 : w0.heap.size ≤ (w3.alloc (.cells #[.int .i64 (j : Int)] 3)).heap.size := by have := (HO3.out.lt g rfl); simp; omega
        go_wp2_with (first
         | (at_builtin; refine append_any _ rfl _ _ 24 rfl w0.heap.size 3 i0 (.int .i64 0) 1 8 Tryz.underlying24 hi hz0 hz1 hz2 rfl (by decide) g n0 c (natV N0) (by rfl) (HO3.out.alloc _) ⟨w3.heap.size, 0, none⟩ 1 1 [.int .i64 (j : Int)] (by rfl) rfl (World.news_of_block (cs := #[.int .i64 (j : Int)]) (t := 3) (fr := (0, 0)) (heap_alloc_new w3 _)) (by simp [Value.oneCell']) (by unfold maxLen; omega) (by omega) hb30 ?_; intro g6 c6 w6 hown6 hgr6 hat6 hlt6))
        have HG6 := Lh (grown_two (grown_two HG3.out (grown_bel (g := gl) (below_alloc1 w3 (.cells #[.int .i64 (j : Int)] 3))) (.inl rfl)) hgr6 HGG.out)
        have HGG6 := Lh (show g6 = gl ∨ wx.heap.size ≤ g6 by
         have := HG3.out.size
         rcases hat6 with q | q
         ·rw [q]; exact HGG.out
         ·right; rw [q]; simp; omega)
        have HE6 := Lh (show P0 ++ nxtTo all X (j + 1) = N0 ++ [j] by rw [HE.out, ← List.append_assoc, HN0.out])
        have HO6 := Lh (show w6.ownsRow w0.heap.size 3 1 (.slice (some ⟨g6, 0, none⟩) (N0 ++ [j]).length c6) (N0 ++ [j]).length (natV (N0 ++ [j])) by
         rw [natV_snoc, List.length_append, Hn0.out]; exact hown6)
        clear hown6 hgr6 hat6 HE HO3 HG3 hb30
        go_wp2
        go_roundg (gk - 1)
        case measure => omega
        case rel => exact ⟨j + 1, g6, c6, by omega, by go_num, by rw [HE6.out, List.length_append, Hn0.out]; rfl, Lh (by rw [HE6.out]; exact HO6.out), HG6, HGG6⟩
      ·obtain rfl : j = m := by omega
       have hE : P0 ++ nxtTo all X j = lnkTo all L (i + 1) := by rw [HSt.out, ← HPe.out, ← HM.out, nxtTo_all]
       rw [hE] at HOg ⊢
       have HB2' := Lh (HBx.out.grown HG.out HBx.out.size (fun g e => by injection e with e; omega))
       clear HG HX2 hE
       go_wp2
       go_roundg (nf - (i + 1))
       case measure => omega
       case rel => exact ⟨i + 1, g, c, by omega, by go_num, rfl, HOg, HB2'⟩
    ·obtain rfl : i = nf := by omega
     have hE : lnkTo all L i = lnk all k := by rw [← HNf.out]; exact HLk.out
     rw [hE] at HOl ⊢
     have hgl := HOl.out.lt gl rfl
     have hw00 := HW0.out.size
     have hRl := rdN_own HOl.out
     have hbx := below_alloc1 wr (.cells #[.slice (some ⟨gl, 0, none⟩) (lnk all k).length cl] 24)
     obtain ⟨hR1, hR2, hR3⟩ := HR0.out
     have hgo := hR2.lt go rfl
     have hb2 := HBl.out.trans (hbx.mono HBl.out.size)
     have HOo := Lh (own_below hR2 hb2 NR)
     have HFo := Lh ((hR3.below hb2 NR).mono hb2.size)
     have HRl := Lh ((hRl.below hbx NR).mono hbx.size)
     have HWn := Lh (HW0.out.trans (hb2.mono HW0.out.size))
     have HR1 := Lh hR1
     have hsz : (wr.alloc (.cells #[.slice (some ⟨gl, 0, none⟩) (lnk all k).length cl] 24)).heap.size = wr.heap.size + 1 := by simp
     have hw1 := HWn.out.size
     clear hRl hbx hR1 hR2 hR3 hb2 hE HOl HBl HR0
     go_wp2_with (first
      | (at_builtin; refine append_any _ rfl _ _ 56 rfl w.heap.size 24 j0 (.slice none 0 0) 1 24 Tryz.underlying56 hj0 hy0 hy1 hy2 rfl (by decide) go k co R (by rfl) HOo.out ⟨wr.heap.size, 0, none⟩ 1 1 [.slice (some ⟨gl, 0, none⟩) (lnk all k).length cl] (by rfl) rfl (World.news_of_block (cs := #[.slice (some ⟨gl, 0, none⟩) (lnk all k).length cl]) (t := 24) (fr := (0, 0)) (heap_alloc_new wr _)) (by simp [Value.oneCell']) (by unfold maxLen; omega) (by omega) hw1 ?_; intro g6 c6 w6 hown6 hgr6 hat6 hlt6))
     have HB6 := Lh (HWn.out.grown hgr6 hw1 (fun g e => by injection e with e; omega))
     have HF6 := Lh (show Fin w6 w.heap.size w6.heap.size g6 (R ++ [.slice (some ⟨gl, 0, none⟩) (lnk all k).length cl]) (lnk all) by
      have h1 := HR1.out
      have := HFo.out.add (go' := g6) NR hgr6 (hat6.imp id (fun e => by rw [e]; exact Nat.le_refl _)) (sl := some ⟨gl, 0, none⟩) (cl := cl) (by rw [h1]; exact HRl.out) (fun a ha => by injection ha with ha; subst ha; exact ⟨by show gl ≠ go; omega, by show gl < _; omega, by show _ ≤ gl; omega⟩)
      rw [h1] at this
      exact this.mono hgr6.size)
     have HO6 := Lh hown6
     clear hown6 hgr6 hat6 HOo HFo HRl HWn
     go_wp2
     go_roundg (m - (k + 1))
     case measure => omega
     case rel => exact ⟨k + 1, g6, c6, _, by omega, by go_num, rfl, Lh ⟨by rw [List.length_append, HR1.out]; rfl, HO6.out, HF6.out⟩, HB6⟩
  ·obtain rfl : k = m := by omega
   obtain ⟨hR1, hR2, hR3⟩ := HR.out
   have HD := Lh (show RdL wr wr.heap.size (some ⟨go, 0, none⟩) k (lnk all) from hR3.rdl hR1 (hR2.lt go rfl).2 (fun j v hv => (hR2.cellAt j (by have := (List.getElem?_eq_some_iff.1 hv).1; omega)).trans hv))
   have HLo := Lh (show LoL wr w.heap.size (some ⟨go, 0, none⟩) k from hR3.lol hR1 (hR2.lt go rfl).1 (fun j v hv => (hR2.cellAt j (by have := (List.getElem?_eq_some_iff.1 hv).1; omega)).trans hv))
   clear HR hR1 hR2 hR3
   go_wp2
   go_ret
   exact ⟨_, co, rfl, HD.out, HLo.out, HB.out⟩
end Go.Proofs.YtmajllgfmclcoaaGreatDoor.Wg
