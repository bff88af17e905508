/- OrdI, FrT in one text. -/
import Derived.Test.YtjfagpmklifjlaaMg26
import Derived.Test.YtjfagpmklifjlaaMg27
import Derived.Test.YtjfagpmklifjlaaMg24
import Derived.Test.YtjfagpmklifjlaaMg14

namespace Go.Proofs.Ytjfagpmklifjlaa.Til
set_option linter.unusedVariables false
set_option linter.unusedSimpArgs false
open Go.RowKit Go.Proofs.Ytjfagpmklifjlaa.Dom Go.Proofs.Ytjfagpmklifjlaa.Dms Go.Joins
open Go.Proofs.Ytjfagpmklifjlaa.Reg

def vld (L : List Dm) (j : Nat) : List Dm := (L.take j).filter okM
theorem vld_yes {L : List Dm} {j : Nat} (hj : j < L.length) (h : okM L[j] = true) : vld L (j + 1) = vld L j ++ [L[j]] := by
 unfold vld; rw [List.take_succ_eq_append_getElem hj, List.filter_append]; simp [h]
theorem vld_no {L : List Dm} {j : Nat} (hj : j < L.length) (h : okM L[j] = false) : vld L (j + 1) = vld L j := by
 unfold vld; rw [List.take_succ_eq_append_getElem hj, List.filter_append]; simp [h]
theorem vld_length (L : List Dm) (j : Nat) : (vld L j).length ≤ j := by
 unfold vld; exact Nat.le_trans (List.length_filter_le _ _) (by rw [List.length_take]; omega)

set_option maxRecDepth 100000 in
set_option maxHeartbeats 2000000 in
theorem inOrder (w : World) (A : Option Addr) (n cap B : Nat) (L : List Dm) (hL : L.length = n) (hn : (n : Int) ≤ 1048576) (hf : Fits L) (h : RowM w B A L) (hB : B ≤ w.heap.size) :
  Calls Try.prog 92 #[.slice A n cap] w (DmPost (sortM L) (sortM L).length w) := by
 obtain ⟨i0, hi, hz0, hz1, hz2⟩ := info_parts domInfo
 obtain ⟨b0, off, h1, h2⟩ := h.at
 have HA := Lib.hid (fun hp => h1 hp)
 have HC := Lib.hid h2
 have HL := Lib.hid hL
 have HF := Lib.hid hf
 have HB := Lib.hid hB
 clear h h1 h2 hL hf hB
 go_enter Try.func92, Try.ntmps92
 go_wp2_with (first
  | (at_make; refine wpList_make_own _ rfl _ _ 28 rfl w.heap.size 41 i0 (.agg #[.int .i64 0, .int .i64 0, .bool false]) 3 Try.underlying28 hi hz0 hz1 .i64 .i64 (n : Int) n rfl rfl rfl (by rw [hz2]; omega) (by unfold maxLen; omega) (Nat.le_refl _) ?_; intro w1 hown1 hg1))
 have hb1 : Below w.heap.size w w1 := (Below.refl _ _).grown hg1 (by omega) (by simp)
 have HO := Lib.hid hown1
 clear hown1 hg1
 go_loopw [3, 11] (fun v i wr => ∃ j k : Nat, j ≤ n ∧ i = .int .i64 j ∧ v = .slice (some ⟨w.heap.size, 0, none⟩) k n ∧ k = (vld L j).length ∧ wr.ownsRow w.heap.size 41 3 (.slice (some ⟨w.heap.size, 0, none⟩) k n) k (rowM (vld L j)) ∧ Below w.heap.size w wr) (fun _ i _ => n - (intOf i).toNat)
 case atStart => exact ⟨0, 0, Nat.zero_le _, rfl, rfl, by simp [vld], by simpa [vld, rowM] using HO.out, hb1⟩
 case round =>
  clear HO hb1
  obtain ⟨j, k, hj, rfl, rfl, hk, hown, hb⟩ := hrel
  have hbs := hb.size
  by_cases hlt : j < n
  ·have hjL : j < L.length := by have := HL.out; omega
   obtain ⟨rfl, hbB⟩ := HA.out (by omega)
   obtain ⟨c0, c1, c2⟩ := HC.out j hjL
   have hbw : b0 < w.heap.size := by have := HB.out; omega
   have c0 := (hb.cell (p := ⟨b0, off + j * 3, none⟩) hbw).trans c0
   have c1 := (hb.cell (p := ⟨b0, off + j * 3 + 1, none⟩) hbw).trans c1
   have c2 := (hb.cell (p := ⟨b0, off + j * 3 + 2, none⟩) hbw).trans c2
   obtain ⟨f1, f2⟩ := HF.out L[j] (List.getElem_mem hjL)
   have HY := Lib.hid (fun h => vld_yes (L := L) hjL h)
   have HN := Lib.hid (fun h => vld_no (L := L) hjL h)
   generalize L[j] = d at c0 c1 c2 f1 f2 HY HN
   obtain ⟨x, y, b⟩ := d
   simp only [okM] at c0 c1 c2 f1 f2 HY HN
   have HD := Lib.hid (fun W => iDominoOk x y b f1 f2 W)
   generalize domB x y b = p at HD HY HN
   have hkj : k ≤ j := by rw [hk]; exact vld_length L j
   have HK := Lib.hid hk
   have HOwn := Lib.hid hown
   have HBw := Lib.hid hb
   clear f1 f2 hk hown hb
   go_wp2_with fail
   refine (HD.out _).mono ?_
   rintro e w2 ⟨rfl, hb2⟩
   obtain ⟨hE, K1⟩ := bx3 x y b wr w2 hb2
   have hown2 := Reg.own_below HOwn.out hE (Nat.le_refl _)
   have hB2 := HBw.out.trans (hE.mono hbs)
   have hs2 := hE.size
   clear hb2 HOwn HBw HD hE
   cases p with
   | false =>
    have HE := Lib.hid (HN.out (by first | rfl | trivial))
    have HO2 := Lib.hid hown2
    clear hown2 HY HN K1 c0 c1 c2
    go_wp2
    go_roundw
    case rel => exact ⟨j + 1, k, by omega, by go_num, rfl, by rw [HE.out]; exact HK.out, by rw [HE.out]; exact HO2.out, hB2⟩
    case measure => (simp [intOf] <;> omega)
   | true =>
    have HE := Lib.hid (HY.out (by first | rfl | trivial))
    have d0 := K1.c0
    have d1 := K1.c1
    have d2 := K1.c2
    have HO2 := Lib.hid hown2
    clear hown2 HY HN K1 c0 c1 c2
    go_wp2_with (first
     | (at_builtin; refine wpList_append_fits _ rfl _ _ 28 rfl w.heap.size 41 i0 3 Try.underlying28 hi hz1 w.heap.size k n (rowM (vld L j)) (by rfl) (HO2.out.alloc _) ⟨w2.heap.size, 0, none⟩ 1 1 [.int .i64 x, .int .i64 y, .bool b] (by rfl) rfl (World.news_of_block (cs := #[.int .i64 x, .int .i64 y, .bool b]) (t := 41) (fr := (0, 0)) (heap_alloc_new w2 _)) (by simp [Value.oneCell']) (by omega) ?_; intro w3 hown3 hgrow))
    have hb3 : Below w.heap.size w w3 := (hB2.alloc (by omega) _).grown hgrow (by simp; omega) (fun g hg => by have hg2 : w.heap.size = g := by { injection hg }; omega)
    have R := Lib.hid (show w3.ownsRow w.heap.size 41 3 (.slice (some ⟨w.heap.size, 0, none⟩) (k + 1) n) (k + 1) (rowM (vld L (j + 1))) by
     rw [HE.out, rowM_snoc]; exact hown3)
    clear hown3 hgrow
    go_wp2
    go_roundw
    case rel => exact ⟨j + 1, k + 1, by omega, by go_num, by go_num, by rw [HE.out, List.length_append, ← HK.out]; rfl, R.out, hb3⟩
    case measure => (simp [intOf] <;> omega)
  ·obtain rfl : j = n := by omega
   have hkj : k ≤ j := by rw [hk]; exact vld_length L j
   have hvl : vld L j = L.filter okM := by unfold vld; rw [← HL.out, List.take_length]
   have HSo := Lib.hid (Srt.sortCall wr w.heap.size w.heap.size k j (vld L j) (by omega) (fun d hd => by rw [hvl] at hd; exact (List.mem_filter.1 hd).2) hown)
   have HV := Lib.hid hvl
   have HK := Lib.hid hk
   have HBw := Lib.hid hb
   clear hvl hk hown hb
   go_wp2_with fail
   refine HSo.out.mono ?_
   rintro e w2 ⟨rfl, M, hs, hp, hown2, hg2⟩
   have hb2 := HBw.out.grown hg2 hbs (fun g hg => by injection hg with hg; omega)
   have hml : M.length = k := by rw [hp.length_eq]; exact HK.out.symm
   have HCo := Lib.hid (Cmp.compactCall w2 w.heap.size w.heap.size k j M (by omega) hown2)
   have HE := Lib.hid (show Cmp.cmpT M k = sortM L by rw [← hml]; exact Cmp.cmpT_sort hs (by rw [← HV.out]; exact hp))
   clear HSo hown2 hg2 hs hp hml HBw
   go_wp2_with fail
   refine HCo.out.mono ?_
   rintro e w3 ⟨m, rfl, hm, hown3, hg3⟩
   have hb3 := hb2.grown hg3 hb2.size (fun g hg => by injection hg with hg; omega)
   rw [HE.out] at hm hown3
   have HO3 := Lib.hid hown3
   have HM := Lib.hid hm
   clear hown3 hm hg3 hb2 HCo
   go_wp2
   go_ret
   rw [← HM.out]
   refine ⟨_, _, rfl, ?_, HO3.out, hb3⟩
   rcases HO3.out.2 with ⟨h, _⟩ | ⟨g', cap', cur, h, hg, hh, h1, _⟩
   ·cases h
   ·injection h with _ _ hc
    subst hc; exact h1

set_option maxHeartbeats 1000000 in
theorem iSortDominoes (w : World) (A : Option Addr) (n cap B : Nat) (L : List Dm) (hL : L.length = n) (hn : (n : Int) ≤ 1048576) (hf : Fits L) (h : RowM w B A L) (hB : B ≤ w.heap.size) :
  Calls Try.prog 74 #[.slice A n cap] w (DmPost (sortM L) (sortM L).length w) := by
 have HO := Lib.hid (inOrder w A n cap B L hL hn hf h hB)
 generalize sortM L = S at HO ⊢
 clear hL hn hf h hB
 go_enter Try.func74, Try.ntmps74
 go_wp2_with fail
 refine HO.out.mono ?_
 rintro e w1 ⟨A1, cap1, rfl, hc, hown, hb⟩
 have H := Lib.hid hown
 clear hown HO
 go_wp2
 go_ret
 exact ⟨A1, cap1, rfl, hc, H.out, hb⟩
end Go.Proofs.Ytjfagpmklifjlaa.Til

namespace Go.Proofs.Ytjfagpmklifjlaa.Frd
set_option linter.unusedVariables false
set_option linter.unusedSimpArgs false
set_option maxRecDepth 100000
open Go.RowKit Go.Proofs.Ytjfagpmklifjlaa.Base Go.Proofs.Ytjfagpmklifjlaa.Dom Go.Proofs.Ytjfagpmklifjlaa.Dms Go.Proofs.Ytjfagpmklifjlaa.Til Go.Proofs.Ytjfagpmklifjlaa.Fr Go.Joins
open Go.Proofs.Ytjfagpmklifjlaa.Prof (withT iCountWith iCountTilings)
open Go.Proofs.Ytjfagpmklifjlaa.Cnt (tilesR)
open Go.Proofs.Ytjfagpmklifjlaa.Reg hiding RC rc_start

theorem RgD.far {w : World} {b r g : Nat} {E : List Dm} {c : Dm → Int} {left : Dm → Bool} {cnt : Nat} (h : RgD w b r E c left cnt) {cs : Array Value} {t : TypeId} {fr : Nat × Nat} (hg : w.heap[g]? = some (.cells cs t fr)) : g ≠ r ∧ g ≠ b := by
  obtain ⟨n, D, lf, _, ⟨es, clock, since, seen, c0, hb, _, _, _, hr, _⟩, _⟩ := h
  constructor
  · intro e; rw [e, hr] at hg; cases hg
  · intro e; rw [e, hb] at hg; cases hg
def InE (E : List Dm) (c : Dm → Int) (n : Int) (left : Dm → Bool) (L : List Dm) : Prop := ∀ d, d ∈ L ↔ (d ∈ E ∧ n ≤ c d) ∧ left d = false
section
variable {E L : List Dm} {c : Dm → Int} {n : Int} {left : Dm → Bool}
theorem InE.none : InE E c n (fun d => decide (d ∈ E)) [] := fun d => ⟨fun h => (by cases h), fun ⟨⟨h0, _⟩, h1⟩ => (by rw [decide_eq_false_iff_not] at h1; exact absurd h0 h1)⟩
theorem InE.yes (h : InE E c n left L) {d : Dm} (hd : d ∈ E) (hc : n ≤ c d) : InE E c n (lessE left d) (L ++ [d]) := fun z => by
  unfold lessE
  rw [List.mem_append, List.mem_singleton, h z]
  constructor
  · rintro (⟨a, b⟩ | rfl)
    · exact ⟨a, by simp [b]⟩
    · exact ⟨⟨hd, hc⟩, by simp⟩
  · rintro ⟨a, b⟩
    by_cases q : z = d
    · exact .inr q
    · exact .inl ⟨a, by simpa [q] using b⟩
theorem InE.no (h : InE E c n left L) {d : Dm} (hc : ¬ n ≤ c d) : InE E c n (lessE left d) L := fun z => by
  unfold lessE
  rw [h z]
  constructor
  · rintro ⟨a, b⟩
    exact ⟨a, by simp [b]⟩
  · rintro ⟨a, b⟩
    by_cases q : z = d
    · subst q; exact absurd a.2 hc
    · exact ⟨a, by simpa [q] using b⟩
end

set_option maxHeartbeats 4000000 in
theorem iInTilings (w : World) (A : Option Addr) (n cap B : Nat) (xs : List Int) (hx : xs.length = n) (hn : (n : Int) ≤ 1048576) (h : RowB w B A xs) (hB : B ≤ w.heap.size) (hcap : A = none → n = 0 ∧ cap = 0) (k : Int) :
    Calls Try.prog 41 #[.agg #[.slice A n cap], .int .i64 k] w (DmPost (inT xs k) (inT xs k).length w) := by
  obtain ⟨i0, hi, hz0, hz1, hz2⟩ := info_parts domInfo
  have HC := Lib.hid (fun W (hb : Below w.heap.size w W) => iCountsOf W A n cap B xs hx hn (h.below hb hB) (by have := hb.size; omega) hcap)
  have HS0 := Lib.hid (fun (o : Obj) => below_alloc1 w o)
  have HSo := Lib.hid (fun R (hR : ∀ d, d ∈ R ↔ d ∈ candP xs ∧ k ≤ cW xs d) => inT_sort (xs := xs) (n := k) hR)
  have HFi := Lib.hid (fun d (hd : d ∈ candP xs) => cand_fits hd)
  unfold CoP at HC
  generalize inT xs k = F at HSo ⊢
  generalize candP xs = E at HC HSo HFi
  generalize cW xs = c at HC HSo
  clear hx hn h hB hcap
  go_enter Try.func41, Try.ntmps41
  go_wp2_with fail
  refine (HC.out _ (HS0.out _)).mono ?_
  rintro e w1 ⟨m, rfl, ho1, hm1, hb1⟩
  have B1 := (HS0.out (.cells #[.slice A n cap] 26)).trans (hb1.mono (HS0.out _).size)
  have HN := Lib.hid (World.ownsRow_nil w1 w1.heap.size 41 3)
  clear HC HS0 hb1
  go_wp2_with (first
    | (at_range; refine range_d _ rfl _ rfl m 128 E c (by omega) rfl ho1 ?_; intro w2 cnt hcnt hrg2 hg2 hs2)
    | fail)
  go_frame
  have hb2 : Below w.heap.size w w2 := B1.grown hg2 B1.size (by simp)
  have HO := Lib.hid (show w2.ownsRow w1.heap.size 41 3 (.slice none 0 0) 0 (rowM []) from HN.out.kept hg2 (.inl rfl))
  have HG := Lib.hid hrg2
  have hr0 : w.heap.size ≤ w1.heap.size := B1.size
  have HB2 := Lib.hid hb2
  generalize w1.heap.size = r at HO HG hr0 ⊢
  clear ho1 hm1 B1 HN hg2 hs2 hrg2 hb2
  go_loopw [5] (fun v wr => ∃ (left : Dm → Bool) (cnt : Nat) (L : List Dm), RgD wr m r E c left cnt ∧ Hid (L.length + cnt ≤ 128 ∧ InE E c k left L) ∧ wr.ownsRow r 41 3 v L.length (rowM L) ∧ Below w.heap.size w wr) (fun _ wr => wr.rangeLeft m r)
  case atStart => exact ⟨_, cnt, [], HG.out, Lib.hid ⟨by simp; exact hcnt, InE.none⟩, HO.out, HB2.out⟩
  case round =>
    clear HG HO HB2 hcnt
    obtain ⟨left, cnt, L, hrg, HQ, hO, hb⟩ := hrel
    have HLt := Lib.hid hrg.left_eq
    generalize hLl : L.length = t at *
    have HLl := Lib.hid hLl
    clear hLl
    go_wp2_with (first | (at_next; refine next_d _ rfl _ rfl m r E c left cnt rfl hrg ?_ ?_) | fail)
    · intro hl0
      obtain ⟨A5, c5, rfl⟩ := own_shape hO
      have HIn := Lib.hid (show ∀ d, d ∈ L ↔ d ∈ E ∧ k ≤ c d from fun d => by
        rw [HQ.out.2 d]
        exact ⟨fun q => q.1, fun q => ⟨q, hl0 d q.1⟩⟩)
      have HS := Lib.hid (iSortDominoes wr A5 t c5 wr.heap.size L HLl.out (by have := HQ.out.1; omega) (fun d hd => by
        have := HFi.out d ((HIn.out d).1 hd).1
        unfold Sm; omega) (rowM_own hO) (Nat.le_refl _))
      rw [HSo.out L HIn.out] at HS
      have HB := Lib.hid hb
      clear hrg hO hb HQ
      go_wp2_with fail
      refine HS.out.mono ?_
      rintro e w5 ⟨A6, cap6, rfl, hc6, hown6, hb6⟩
      have hb7 := HB.out.trans (hb6.mono HB.out.size)
      have HO6 := Lib.hid (Reg.own_base hown6 HB.out.size)
      clear hown6 hb6
      go_wp2
      go_ret
      exact ⟨A6, cap6, rfl, hc6, HO6.out, hb7⟩
    · intro dx dy vs q w3 hd hg3 hen
      obtain ⟨db, cnt3, rfl, hrg3, ⟨hq, hlt3⟩, hd⟩ := hd
      have HCn := Lib.hid HQ.out.1
      have HIy := Lib.hid (fun (hc : k ≤ q) => HQ.out.2.yes hd.1 (by rw [← hq]; exact hc))
      have HIn := Lib.hid (fun (hc : ¬ k ≤ q) => HQ.out.2.no (d := (dx, dy, db)) (by rw [← hq]; exact hc))
      have hrl := hrg.lt
      have hO3 := hO.kept hg3 (by
        rcases hO.2 with ⟨q, _⟩ | ⟨g', c', cur, q, h1, h2, _⟩
        · rw [q]; exact .inl rfl
        · right; rw [q]; intro e; injection e with e; exact (hrg.far h2).1 e)
      have hb3 : Below w.heap.size w w3 := hb.grown hg3 hb.size (fun q e => by cases e; exact hr0)
      generalize lessE left (dx, dy, db) = left1 at hrg3 HIn HIy
      have HLt3 := Lib.hid (And.intro hlt3 HLt.out)
      clear hq hd hrg hO hb hg3 HQ HLt hlt3
      have B4 := hb3.alloc hb3.size (.cells #[.int .i64 dx, .int .i64 dy, .bool db] 41)
      have R4 := hrg3.on (below_alloc1 w3 (.cells #[.int .i64 dx, .int .i64 dy, .bool db] 41))
      have O4 := Reg.own_below hO3 (below_alloc1 w3 (.cells #[.int .i64 dx, .int .i64 dy, .bool db] 41)) (Nat.le_refl _)
      have D4 := At3.new 41 w3 dx dy db
      go_upto_region 5 with fail
      generalize w3.alloc (.cells #[.int .i64 dx, .int .i64 dy, .bool db] 41) = W4 at B4 R4 O4 D4 ⊢
      clear hen hrg3 hO3 hb3
      by_cases hp : k ≤ q
      · have d0 := D4.c0
        have d1 := D4.c1
        have d2 := D4.c2
        have ht : t ≤ 128 := by have := HCn.out; omega
        have HIy2 := Lib.hid (HIy.out hp)
        clear HIy HIn
        go_wp2_with (first
          | (at_builtin
             go_must (refine wpList_append_own _ rfl _ _ 28 rfl r 41 i0 (.agg #[.int .i64 0, .int .i64 0, .bool false]) 3 24 Try.underlying28 hi hz0 hz1 hz2 rfl (by decide) _ t (rowM L) rfl (O4.alloc _) ⟨W4.heap.size, 0, none⟩ 1 1 [.int .i64 dx, .int .i64 dy, .bool db] rfl rfl (World.news_of_block (cs := #[.int .i64 dx, .int .i64 dy, .bool db]) (t := 41) (fr := (0, 0)) (heap_alloc_new W4 _)) (by simp [Value.oneCell']) (by unfold maxLen; omega) (by omega) (by have := R4.lt.1; simp; omega) ?_)
             intro v7 w7 hown7 hgrow7 _))
        have bl4 := below_alloc1 W4 (.cells #[.int .i64 dx, .int .i64 dy, .bool db] 41)
        have O5 := Reg.own_below O4 bl4 (Nat.le_refl _)
        have R5 := R4.on bl4
        have B5 := B4.alloc B4.size (.cells #[.int .i64 dx, .int .i64 dy, .bool db] 41)
        have R7 := R5.kept hgrow7 (by
          intro e
          rcases O5.2 with ⟨q2, _⟩ | ⟨g', c', cur, q2, h1, h2, _⟩
          · rw [q2] at e; cases e
          · rw [q2] at e; injection e with e; exact (R5.far h2).2 e.symm) (by
          intro e
          rcases O5.2 with ⟨q2, _⟩ | ⟨g', c', cur, q2, h1, h2, _⟩
          · rw [q2] at e; cases e
          · rw [q2] at e; injection e with e; exact (R5.far h2).1 e.symm)
        have hb7 := B5.grown hgrow7 (by have := B4.size; simp; omega) (fun g e => by have := (O5.lt g e).1; omega)
        have HO7 := Lib.hid (show w7.ownsRow r 41 3 v7 (L ++ [(dx, dy, db)]).length (rowM (L ++ [(dx, dy, db)])) from by
          rw [List.length_append, HLl.out, rowM_snoc]; exact hown7)
        have HR7 := Lib.hid R7
        have hln : (L ++ [(dx, dy, db)]).length = t + 1 := by rw [List.length_append, HLl.out]; rfl
        clear hown7 hgrow7 O4 O5 R4 R5 R7 B4 B5 D4 d0 d1 d2 bl4
        go_roundw
        case rel =>
          refine ⟨left1, cnt3, L ++ [(dx, dy, db)], HR7.out, Lib.hid ⟨?_, HIy2.out⟩, HO7.out, hb7⟩
          rw [hln]; have := HCn.out; have := HLt3.out.1; omega
        case measure => rw [HR7.out.left_eq, HLt3.out.2]; exact HLt3.out.1
      · have HIn2 := Lib.hid (HIn.out hp)
        have HR4 := Lib.hid R4
        have HO4 := Lib.hid (show W4.ownsRow r 41 3 _ L.length (rowM L) from by rw [HLl.out]; exact O4)
        clear HIy HIn O4 R4 D4
        go_wp2
        go_roundw
        case rel =>
          refine ⟨left1, cnt3, L, HR4.out, Lib.hid ⟨?_, HIn2.out⟩, HO4.out, B4⟩
          rw [HLl.out]; have := HCn.out; have := HLt3.out.1; omega
        case measure => rw [HR4.out.left_eq, HLt3.out.2]; exact HLt3.out.1

set_option maxHeartbeats 1000000 in
theorem iPossible (w : World) (A : Option Addr) (n cap B : Nat) (xs : List Int) (hx : xs.length = n) (hn : (n : Int) ≤ 1048576) (h : RowB w B A xs) (hB : B ≤ w.heap.size) (hcap : A = none → n = 0 ∧ cap = 0) :
    Calls Try.prog 12 #[.agg #[.slice A n cap]] w (DmPost (possD xs) (possD xs).length w) := by
  have HI := Lib.hid (fun W (hb : Below w.heap.size w W) => show Calls Try.prog 41 #[.agg #[.slice A n cap], .int .i64 1] W (DmPost (possD xs) (possD xs).length W) from by
    rw [← inT_one]; exact iInTilings W A n cap B xs hx hn (h.below hb hB) (by have := hb.size; omega) hcap 1)
  have HS0 := Lib.hid (below_alloc1 w (.cells #[.slice A n cap] 26))
  generalize possD xs = F at HI ⊢
  clear hx hn h hB hcap
  go_enter Try.func12, Try.ntmps12
  go_wp2_with fail
  refine (HI.out _ HS0.out).mono ?_
  rintro e w1 ⟨A1, c1, rfl, h1, h2, h3⟩
  have HO := Lib.hid (Reg.own_base h2 HS0.out.size)
  have HB := HS0.out.trans (h3.mono HS0.out.size)
  clear h2 h3
  go_wp2
  go_ret
  exact ⟨A1, c1, rfl, h1, HO.out, HB⟩
set_option maxHeartbeats 2000000 in
theorem iForced (w : World) (A : Option Addr) (n cap B : Nat) (xs : List Int) (hx : xs.length = n) (hn : (n : Int) ≤ 1048576) (h : RowB w B A xs) (hB : B ≤ w.heap.size) (hcap : A = none → n = 0 ∧ cap = 0) :
    Calls Try.prog 11 #[.agg #[.slice A n cap]] w (DmPost (forcD xs) (forcD xs).length w) := by
  have HI := Lib.hid (fun W (hb : Below w.heap.size w W) => show Calls Try.prog 41 #[.agg #[.slice A n cap], .int .i64 (tilesR xs)] W (DmPost (forcD xs) (forcD xs).length W) from by
    rw [← inT_all]; exact iInTilings W A n cap B xs hx hn (h.below hb hB) (by have := hb.size; omega) hcap _)
  have HT := Lib.hid (fun W (hb : Below w.heap.size w W) => iCountTilings W A n cap B xs hx (by omega) (h.below hb hB) (by have := hb.size; omega))
  have R0 := Lib.hid (Rg.new w (.slice A n cap))
  have HS0 := Lib.hid (below_alloc1 w (.cells #[.slice A n cap] 26))
  generalize forcD xs = F at HI ⊢
  generalize tilesR xs = q at HI HT
  clear hx hn h hB hcap
  go_enter Try.func11, Try.ntmps11
  go_wp2_with fail
  generalize w.alloc (.cells #[.slice A n cap] 26) = W0 at R0 HS0 ⊢
  refine wp_region_noPanic ?_
  have B1 := HS0.out.drew
  have R1 : Rg W0.drew w.heap.size (.slice A n cap) := R0.out
  refine wp_region_held_drew (S := fun w' => w'.cell? ⟨w.heap.size, 0, none⟩ = some (.slice A n cap)) (by kernel_rfl) (R1.c0) (fun hHeld => ?_)
  generalize W0.drew = W1 at B1 R1 hHeld ⊢
  clear R0 HS0
  refine wpAnyH_take (i := 0) (v := ?_) rfl (by kernel_rfl) (by kernel_rfl) (by kernel_rfl) (fun _ _ _ h => h) (Or.inl ⟨by rfl, ?_⟩) (by assumption) ?_
  rotate_left
  · (intro w' hS; (try dsimp only at hS); go_simp; try with_reducible rfl)
  try simp only [Act.put, List.getElem_toArray, List.getElem_cons_succ, List.getElem_cons_zero, List.setIfInBounds_toArray, List.set_cons_zero, List.set_cons_succ]
  refine wpAnyH_take (i := 1) (v := ?_) rfl (by kernel_rfl) (by kernel_rfl) (by kernel_rfl) (fun _ _ _ h => h) (Or.inl ⟨by rfl, ?_⟩) (by assumption) ?_
  rotate_left
  · (intro w' hS; (try dsimp only at hS); go_simp; try with_reducible rfl)
  try simp only [Act.put, List.getElem_toArray, List.getElem_cons_succ, List.getElem_cons_zero, List.setIfInBounds_toArray, List.set_cons_zero, List.set_cons_succ]
  refine wpAnyH_ready (rs := [2]) (by kernel_rfl) (by simp) ?_
  refine AllReadyH.cons rfl (fun K hK => ?_) AllReadyH.nil
  go_simp
  refine (HT.out _ B1).mono ?_
  rintro e wx ⟨rfl, hbx⟩
  have B1 := B1.trans (hbx.mono B1.size)
  have R1 := R1.on hbx
  clear hbx
  go_wp2_with fail
  refine hK.out _ _ (R1.c0) (fun hHeld => ?_)
  clear hK K
  try simp only [Act.put, List.getElem_toArray, List.getElem_cons_succ, List.getElem_cons_zero, List.setIfInBounds_toArray, List.set_cons_zero, List.set_cons_succ]
  refine wpAnyH_ready (rs := [3]) (by kernel_rfl) (by simp) ?_
  refine AllReadyH.cons rfl (fun K hK => ?_) AllReadyH.nil
  go_simp
  refine (HI.out _ B1).mono ?_
  rintro e wx ⟨A1, c1, rfl, h1, h2, h3⟩
  have HO := Lib.hid (Reg.own_base h2 B1.size)
  have HB := Lib.hid (B1.trans (h3.mono B1.size))
  have R1 := R1.on h3
  clear h2 h3
  go_wp2_with fail
  refine hK.out _ _ (R1.c0) (fun hHeld => ?_)
  clear hK K
  try simp only [Act.put, List.getElem_toArray, List.getElem_cons_succ, List.getElem_cons_zero, List.setIfInBounds_toArray, List.set_cons_zero, List.set_cons_succ]
  refine wpAnyH_take (i := 4) (v := ?_) rfl (by kernel_rfl) (by kernel_rfl) (by kernel_rfl) (fun _ _ _ h => h) (Or.inl ⟨by rfl, ?_⟩) (by assumption) ?_
  rotate_left
  · (intro w' hS; (try dsimp only at hS); go_simp; try with_reducible rfl)
  try simp only [Act.put, List.getElem_toArray, List.getElem_cons_succ, List.getElem_cons_zero, List.setIfInBounds_toArray, List.set_cons_zero, List.set_cons_succ]
  refine wpAnyH_done (by kernel_rfl) ?_ _
  refine NoPanic.normal ?_
  clear hHeld
  go_wp2
  go_ret
  exact ⟨A1, c1, rfl, h1, HO.out, HB.out⟩
end Go.Proofs.Ytjfagpmklifjlaa.Frd
