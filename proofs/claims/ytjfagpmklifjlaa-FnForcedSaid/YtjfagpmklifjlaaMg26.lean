/- SrtC, CmpP in one text. -/
import Derived.Test.YtjfagpmklifjlaaMg25
import Derived.Test.YtjfagpmklifjlaaMg18
import Derived.Test.YtjfagpmklifjlaaSrt
import Derived.Shelf.SlSortCmp.NoneTotal
import Derived.Test.YtjfagpmklifjlaaMg03

namespace Go.Proofs.Ytjfagpmklifjlaa.Srt
set_option linter.unusedVariables false
set_option linter.unusedSimpArgs false
open Go.RowKit Go.Sort Go.Proofs.Ytjfagpmklifjlaa.Dom Go.Proofs.Ytjfagpmklifjlaa.Dms Go.Proofs.Ytjfagpmklifjlaa.Til Go.Joins

theorem gr_of {W W' : World} (h : Drw.Blw W.heap.size W W') : ∃ q os', W' = grow (W.drewN q) os' := by
 refine ⟨W'.drawn - W.drawn, W'.heap.extract W.heap.size W'.heap.size, ?_⟩
 obtain ⟨hb, hd⟩ := h
 have e1 : W'.heap = W.heap ++ W'.heap.extract W.heap.size W'.heap.size := by
  apply Array.ext_getElem?
  intro k
  by_cases hk : k < W.heap.size
  ·rw [Array.getElem?_append_left hk]; exact hb.block k hk
  ·rw [Array.getElem?_append_right (by omega), Array.getElem?_extract]
   by_cases hk2 : k < W'.heap.size
   ·rw [if_pos (by omega), show W.heap.size + (k - W.heap.size) = k by omega]
   ·rw [if_neg (by omega), Array.getElem?_eq_none (by omega)]
 have e2 : W'.drawn = W.drawn + (W'.drawn - W.drawn) := by omega
 obtain ⟨h1, h2, h3, h4, h5⟩ := W'
 have t1 := hb.os
 have t2 := hb.tape
 have t3 := hb.output
 simp only at t1 t2 t3 e1 e2
 subst t1 t2 t3
 unfold grow World.drewN
 simp only [World.mk.injEq]
 exact ⟨e1, trivial, e2, trivial, trivial⟩

abbrev V := { d : Dm // okM d = true }
instance : Inhabited V := ⟨⟨(0, 0, false), by decide +kernel⟩⟩
def enc (d : V) : List Value := [.int .i64 d.1.1, .int .i64 d.1.2.1, .bool d.1.2.2]
def cf (x y : V) : Int := Drw.cmpB (befM x.1 y.1) (befM y.1 x.1)
theorem lt_bef (x y : V) : ltOf cf x y = befM x.1 y.1 := by
 unfold ltOf cf Drw.cmpB
 cases befM x.1 y.1 <;> cases befM y.1 x.1 <;> rfl
theorem swo : SWO (ltOf cf) where
 irrefl x := by rw [lt_bef]; exact befM_irrefl _
 trans x y z h1 h2 := by rw [lt_bef] at *; exact befM_trans h1 h2
 ntrans x y z h1 h2 := by
  rw [lt_bef] at *
  by_cases e1 : x.1 = y.1
  ·rw [e1]; exact h2
  ·by_cases e2 : y.1 = z.1
   ·rw [← e2]; exact h1
   ·have k1 := befM_total x.2 y.2 e1
    have k2 := befM_total y.2 z.2 e2
    rw [h1] at k1
    rw [h2] at k2
    exact befM_asymm (befM_trans k2 k1)
theorem tot (x y : V) (h1 : ltOf cf x y = false) (h2 : ltOf cf y x = false) : x = y := by
 rw [lt_bef] at *
 exact Subtype.ext (befM_same x.2 y.2 h1 h2)
theorem lays (blk off size : Nat) (w : World) : CmpLays Try.prog 100 #[] enc 3 cf blk off size w := fun m os dk _ x y => by
 have hx := okM_in x.2
 have hy := okM_in y.2
 refine (Drw.iCompare x.1.1 x.1.2.1 x.1.2.2 y.1.1 y.1.2.1 y.1.2.2 ?_ ?_ ?_ ?_ _).mono ?_
 ·unfold Sm; omega
 ·unfold Sm; omega
 ·unfold Sm; omega
 ·unfold Sm; omega
 ·rintro e w' ⟨rfl, hb⟩
  exact ⟨rfl, gr_of hb⟩

theorem flat_row (d : Array V) : (flatK enc 3 d).toList = rowM (d.toList.map (·.1)) := by
 apply List.ext_getElem?
 intro t
 by_cases ht : t < d.size * 3
 ·have hd : d[t / 3]? = some d[t / 3]! := by rw [getElem!_pos d (t / 3) (by omega)]; exact Array.getElem?_eq_getElem _
  obtain ⟨h0, h1, h2⟩ := rowM_at (d.toList.map (·.1)) (t / 3) d[t / 3]!.1 (by simp [hd])
  have e : (flatK enc 3 d).toList[t]? = some ((enc d[t / 3]!)[t % 3]!) := by
   rw [← get_flatK enc 3 d t ht, getElem!_pos (flatK enc 3 d) t (by simpa using ht)]
   simp
  rw [e]
  have hc : t = t / 3 * 3 ∧ t % 3 = 0 ∨ t = t / 3 * 3 + 1 ∧ t % 3 = 1 ∨ t = t / 3 * 3 + 2 ∧ t % 3 = 2 := by omega
  rcases hc with ⟨e1, e2⟩ | ⟨e1, e2⟩ | ⟨e1, e2⟩
  ·rw [← e1] at h0; rw [h0, e2]; rfl
  ·rw [← e1] at h1; rw [h1, e2]; rfl
  ·rw [← e1] at h2; rw [h2, e2]; rfl
 ·rw [List.getElem?_eq_none (by simpa using ht), List.getElem?_eq_none (by rw [rowM_length]; simp; omega)]
theorem put_take (F cur : Array Value) (h : F.size ≤ cur.size) : (putCells id 0 F cur).toList.take F.size = F.toList := by
 apply List.ext_getElem?
 intro k
 rw [List.getElem?_take]
 by_cases hk : k < F.size
 ·rw [if_pos hk]
  unfold putCells
  simp only [Array.toList_mapIdx, List.getElem?_mapIdx, Array.getElem?_toList]
  rw [Array.getElem?_eq_getElem (by omega : k < cur.size), Array.getElem?_eq_getElem hk]
  simp [hk]
 ·rw [if_neg hk, List.getElem?_eq_none (by simpa using hk)]

set_option maxHeartbeats 1000000 in
theorem sortCall (w : World) (base blk n cap : Nat) (L : List Dm) (hnb : n ≤ 2000000) (hv : ∀ d ∈ L, okM d = true) (hown : w.ownsRow base 41 3 (.slice (some ⟨blk, 0, none⟩) n cap) n (rowM L)) :
  Calls Try.prog 99 #[.slice (some ⟨blk, 0, none⟩) n cap, .func (.func 100) #[] #[]] w fun e w' =>
   e = .returned (.tuple #[]) ∧ ∃ M : List Dm, M.Pairwise (fun a b => befM b a = false) ∧ M.Perm L ∧ w'.ownsRow base 41 3 (.slice (some ⟨blk, 0, none⟩) n cap) n (rowM M) ∧ w.grownBy w' (some blk) := by
 have hlen : L.length = n := by have := hown.1; rw [rowM_length] at this; omega
 have hblk := (hown.lt blk rfl).2
 have hD : ∃ D : Array V, D.toList.map (·.1) = L := ⟨(L.pmap Subtype.mk hv).toArray, by simp [List.map_pmap]⟩
 obtain ⟨D, hD⟩ := hD
 have hsz : D.size = n := by rw [← hlen, ← hD]; simp
 have hH : HoldsK enc 3 w blk 0 D := by
  intro j hj
  have hj' : j < n * 3 := by rw [size_flatK, hsz] at hj; exact hj
  rw [Nat.zero_add]
  refine ⟨?_, hown.frozenAt j⟩
  rw [hown.cellAt j hj', ← hD, ← flat_row, getElem!_pos (flatK enc 3 D) j hj]
  simp
 have hn62 : n ≤ cap ∧ cap ≤ maxLen ∧ ∃ cur : Array Value, w.heap[blk]? = some (.cells cur 41 (0, 0)) ∧ cur.size = cap * 3 ∧ base ≤ blk := by
  rcases hown.2 with ⟨h, _⟩ | ⟨g, cap', cur, h, hg, hh, h1, h2, h3, _⟩
  ·cases h
  ·injection h with ha _ hc
   injection ha with ha
   injection ha with hb
   subst hb; subst hc
   exact ⟨h1, h2, cur, hh, h3, hg⟩
 obtain ⟨hnc, hcm, cur, hcur, hcs, hbase⟩ := hn62
 have hbig : D.size < 4611686018427387904 := by omega
 have eg : ∀ args w, (callFunc 100 args).run Try.prog w = .ok (.enter 100 args) w := enters_of Try.func100 (by kernel_rfl) rfl
 have hcon := AnyQ.slices_SortFunc_total Try.sortD 3 Try.isAgg41 Try.sizeOf41 enc (fun _ => rfl) (fun x v hv => by simp [enc] at hv; rcases hv with rfl | rfl | rfl <;> rfl) cf swo 100 #[] blk 0 cap D w eg (lays blk 0 D.size w) hH hblk hbig tot
 rw [hsz] at hcon
 refine Calls.mono hcon ?_
 rintro e w' ⟨rfl, q, os, rfl⟩
 refine ⟨rfl, (D.toList.mergeSort fun x y => !ltOf cf y x).map (·.1), ?_, ?_, ?_, ?_⟩
 ·have hp := List.pairwise_mergeSort (le := fun x y : V => !ltOf cf y x) (fun a b c h1 h2 => by
   simp only [Bool.not_eq_true'] at *
   exact swo.ntrans _ _ _ h2 h1) (fun a b => by
   simp only [Bool.or_eq_true, Bool.not_eq_true']
   cases h : ltOf cf b a with
   | false => exact .inl rfl
   | true =>
    right
    cases h2 : ltOf cf a b with
    | false => rfl
    | true => have := swo.trans _ _ _ h h2; rw [swo.irrefl] at this; cases this) D.toList
  rw [List.pairwise_map]
  refine hp.imp fun {a b} h => ?_
  simp only [Bool.not_eq_true'] at h
  rw [← lt_bef]; exact h
 ·have := (List.mergeSort_perm D.toList fun x y => !ltOf cf y x).map (·.1)
  rwa [hD] at this
 ·have hF := flat_row (D.toList.mergeSort fun x y => !ltOf cf y x).toArray
  have hFs : (flatK enc 3 (D.toList.mergeSort fun x y => !ltOf cf y x).toArray).size = n * 3 := by rw [size_flatK]; simp [hsz]
  refine ⟨?_, .inr ⟨blk, cap, putCells id 0 (flatK enc 3 (D.toList.mergeSort fun x y => !ltOf cf y x).toArray) cur, rfl, hbase, ?_, hnc, hcm, ?_, ?_⟩⟩
  ·rw [rowM_length]; simp [hsz]
  ·unfold sortWorldK putRowK putRow mapBlock grow Sort.ahead
   simp only
   rw [Array.getElem?_append_left (by simpa using hblk), Array.getElem?_modify, if_pos rfl, hcur]
   rfl
  ·unfold putCells; simpa using hcs
  ·rw [← hFs, put_take _ _ (by rw [hFs, hcs]; exact Nat.mul_le_mul_right 3 hnc), hF]
 ·refine ⟨rfl, rfl, rfl, ?_, fun k hk hne => ?_⟩
  ·unfold sortWorldK putRowK putRow mapBlock grow Sort.ahead; simp
  ·unfold sortWorldK putRowK putRow mapBlock grow Sort.ahead
   simp only
   rw [Array.getElem?_append_left (by simpa using hk), Array.getElem?_modify, if_neg (fun e => hne (by rw [e]))]
end Go.Proofs.Ytjfagpmklifjlaa.Srt

namespace Go.Proofs.Ytjfagpmklifjlaa.Cmp
set_option linter.unusedVariables false
open Go.RowKit Go.Proofs.Ytjfagpmklifjlaa.Dms Go.Proofs.Ytjfagpmklifjlaa.Til

def cmpT : List Dm → Nat → List Dm
  | _, 0 => []
  | M, j + 1 => if j = 0 ∨ M.getD j (0, 0, false) ≠ M.getD (j - 1) (0, 0, false) then cmpT M j ++ [M.getD j (0, 0, false)] else cmpT M j
theorem cmpT_keep {M : List Dm} {j : Nat} (hj : j < M.length) (h : j = 0 ∨ M[j] ≠ M[j - 1]'(by omega)) : cmpT M (j + 1) = cmpT M j ++ [M[j]] := by
  have e1 : M.getD j (0, 0, false) = M[j] := by simp [List.getD, List.getElem?_eq_getElem hj]
  have e2 : M.getD (j - 1) (0, 0, false) = M[j - 1]'(by omega) := by simp [List.getD, List.getElem?_eq_getElem (show j - 1 < M.length by omega)]
  show (if _ then _ else _) = _
  rw [e1, e2, if_pos h]
theorem cmpT_skip {M : List Dm} {j : Nat} (hj : j < M.length) (h0 : 0 < j) (h : M[j] = M[j - 1]'(by omega)) : cmpT M (j + 1) = cmpT M j := by
  have e1 : M.getD j (0, 0, false) = M[j] := by simp [List.getD, List.getElem?_eq_getElem hj]
  have e2 : M.getD (j - 1) (0, 0, false) = M[j - 1]'(by omega) := by simp [List.getD, List.getElem?_eq_getElem (show j - 1 < M.length by omega)]
  show (if _ then _ else _) = _
  rw [e1, e2, if_neg (by rintro (h' | h'); · omega
                         · exact h' h)]
theorem cmpT_all {M : List Dm} : ∀ {j : Nat}, j ≤ M.length → (∀ i, (h0 : 0 < i) → (hi : i < j) → (hm : i < M.length) → M[i] ≠ M[i - 1]'(by omega)) → cmpT M j = M.take j := by
  intro j
  induction j with
  | zero => intro _ _; simp [cmpT]
  | succ j ih =>
    intro hj h
    rw [cmpT_keep (by omega) (by
      by_cases h0 : j = 0
      · exact .inl h0
      · exact .inr (h j (by omega) (by omega) (by omega))), ih (by omega) (fun i h0 hi hm => h i h0 (by omega) hm), List.take_succ_eq_append_getElem (by omega)]
theorem cmpT_good {M : List Dm} (hs : M.Pairwise (fun a b => befM b a = false)) (hv : ∀ d ∈ M, okM d = true) : ∀ j, j ≤ M.length →
    Inc (cmpT M j) ∧ (∀ d ∈ cmpT M j, ∃ p, M[j - 1]? = some p ∧ (d = p ∨ befM d p = true)) ∧ ∀ d, d ∈ cmpT M j ↔ d ∈ M.take j := by
  intro j
  induction j with
  | zero => intro _; simp [cmpT, Inc]
  | succ j ih =>
    intro hj
    obtain ⟨i1, i2, i3⟩ := ih (by omega)
    have hjl : j < M.length := by omega
    have htk : ∀ d, d ∈ M.take (j + 1) ↔ d ∈ M.take j ∨ d = M[j] := fun d => by rw [List.take_succ_eq_append_getElem hjl, List.mem_append, List.mem_singleton]
    by_cases h0 : j = 0
    · subst h0
      rw [cmpT_keep hjl (.inl rfl)]
      refine ⟨by simp [Inc, cmpT], fun d hd => ?_, fun d => ?_⟩
      · simp [cmpT] at hd; exact ⟨M[0], by simp, .inl hd⟩
      · rw [htk]; simp [cmpT]
    · have hp : j - 1 < M.length := by omega
      have hord : befM M[j] (M[j - 1]'hp) = false := by
        rw [List.pairwise_iff_getElem] at hs
        exact hs (j - 1) j hp hjl (by omega)
      by_cases he : M[j] = M[j - 1]'hp
      · rw [cmpT_skip hjl (by omega) he]
        refine ⟨i1, fun d hd => ?_, fun d => ?_⟩
        · obtain ⟨p, hp1, hp2⟩ := i2 d hd
          refine ⟨p, ?_, hp2⟩
          rw [Nat.add_sub_cancel, List.getElem?_eq_getElem hjl, he, ← hp1, List.getElem?_eq_getElem hp]
        · rw [i3, htk]
          constructor
          · exact .inl
          · rintro (h | h)
            · exact h
            · rw [h, he, List.mem_take_iff_getElem]
              exact ⟨j - 1, by omega, rfl⟩
      · have hlt : befM (M[j - 1]'hp) M[j] = true := by
          rw [befM_total (hv _ (List.getElem_mem hjl)) (hv _ (List.getElem_mem hp)) he, hord]; rfl
        have hall : ∀ d ∈ cmpT M j, befM d M[j] = true := fun d hd => by
          obtain ⟨p, hp1, hp2⟩ := i2 d hd
          rw [List.getElem?_eq_getElem hp] at hp1
          injection hp1 with hp1
          subst hp1
          rcases hp2 with rfl | hp2
          · exact hlt
          · exact befM_trans hp2 hlt
        rw [cmpT_keep hjl (.inr he)]
        refine ⟨?_, fun d hd => ⟨M[j], by simp, ?_⟩, fun d => ?_⟩
        · unfold Inc
          rw [List.pairwise_append]
          exact ⟨i1, by simp, fun a ha b hb => by rw [List.mem_singleton] at hb; subst hb; exact hall a ha⟩
        · rcases List.mem_append.1 hd with hd | hd
          · exact .inr (hall d hd)
          · exact .inl (List.mem_singleton.1 hd)
        · rw [List.mem_append, List.mem_singleton, i3, htk]
theorem cmpT_sort {L M : List Dm} (hs : M.Pairwise (fun a b => befM b a = false)) (hp : M.Perm (L.filter okM)) : cmpT M M.length = sortM L := by
  have hv : ∀ d ∈ M, okM d = true := fun d hd => (List.mem_filter.1 (hp.mem_iff.1 hd)).2
  obtain ⟨h1, _, h3⟩ := cmpT_good hs hv M.length (Nat.le_refl _)
  refine (sortM_of h1 fun d => ?_).symm
  rw [h3, List.take_length, hp.mem_iff, List.mem_filter]
end Go.Proofs.Ytjfagpmklifjlaa.Cmp
