/- slices.SortFunc over valid dominoes by compareDominoes: the row holds them in order. -/
import Derived.Test.YtgkgdgchkhdgjaaDoorDrw
import Derived.Test.YtgkgdgchkhdgjaaDoorTilM
import Derived.Shelf.SlSortCmp.NoneTotal
namespace Go.Proofs.YtgkgdgchkhdgjaaDoor.Srt
set_option linter.unusedVariables false
set_option linter.unusedSimpArgs false
open Go.RowKit Go.Sort Go.Proofs.YtgkgdgchkhdgjaaDoor.Base Go.Proofs.YtgkgdgchkhdgjaaDoor.Dom Go.Proofs.YtgkgdgchkhdgjaaDoor.Dms Go.Proofs.YtgkgdgchkhdgjaaDoor.Til Go.Joins

theorem gr_of {W W' : World} (h : Drw.Blw W.heap.size W W') : ∃ q os', W' = grow (W.drewN q) os' := by
  refine ⟨W'.drawn - W.drawn, W'.heap.extract W.heap.size W'.heap.size, ?_⟩
  obtain ⟨hb, hd⟩ := h
  have e1 : W'.heap = W.heap ++ W'.heap.extract W.heap.size W'.heap.size := by
    apply Array.ext_getElem?
    intro k
    by_cases hk : k < W.heap.size
    · rw [Array.getElem?_append_left hk]; exact hb.block k hk
    · rw [Array.getElem?_append_right (by omega), Array.getElem?_extract]
      by_cases hk2 : k < W'.heap.size
      · rw [if_pos (by omega), show W.heap.size + (k - W.heap.size) = k by omega]
      · rw [if_neg (by omega), Array.getElem?_eq_none (by omega)]
  have e2 : W'.drawn = W.drawn + (W'.drawn - W.drawn) := by omega
  obtain ⟨h1, h2, h3, h4, h5⟩ := W'
  have t1 := hb.os
  have t2 := hb.tape
  have t3 := hb.output
  simp only at t1 t2 t3 e1 e2
  subst t1 t2 t3
  unfold grow World.drewN
  simp only [World.mk.injEq]
  exact ⟨e1, trivial, e2, trivial, trivial⟩

/-- a valid domino. -/
abbrev V := { d : Dm // okM d = true }
instance : Inhabited V := ⟨⟨(0, 0, false), by decide +kernel⟩⟩
def enc (d : V) : List Value := [.int .i64 d.1.1, .int .i64 d.1.2.1, .bool d.1.2.2]
def cf (x y : V) : Int := Drw.cmpB (befM x.1 y.1) (befM y.1 x.1)
theorem lt_bef (x y : V) : ltOf cf x y = befM x.1 y.1 := by
  unfold ltOf cf Drw.cmpB
  cases befM x.1 y.1 <;> cases befM y.1 x.1 <;> rfl
theorem swo : SWO (ltOf cf) where
  irrefl x := by rw [lt_bef]; exact befM_irrefl _
  trans x y z h1 h2 := by rw [lt_bef] at *; exact befM_trans h1 h2
  ntrans x y z h1 h2 := by
    rw [lt_bef] at *
    by_cases e1 : x.1 = y.1
    · rw [e1]; exact h2
    · by_cases e2 : y.1 = z.1
      · rw [← e2]; exact h1
      · have k1 := befM_total x.2 y.2 e1
        have k2 := befM_total y.2 z.2 e2
        rw [h1] at k1
        rw [h2] at k2
        exact befM_asymm (befM_trans k2 k1)
theorem tot (x y : V) (h1 : ltOf cf x y = false) (h2 : ltOf cf y x = false) : x = y := by
  rw [lt_bef] at *
  exact Subtype.ext (befM_same x.2 y.2 h1 h2)
theorem flat_row (d : Array V) : (flatK enc 3 d).toList = rowM (d.toList.map (·.1)) := by
  apply List.ext_getElem?
  intro t
  by_cases ht : t < d.size * 3
  · have hd : d[t / 3]? = some d[t / 3]! := by rw [getElem!_pos d (t / 3) (by omega)]; exact Array.getElem?_eq_getElem _
    obtain ⟨h0, h1, h2⟩ := rowM_at (d.toList.map (·.1)) (t / 3) d[t / 3]!.1 (by simp [hd])
    have e : (flatK enc 3 d).toList[t]? = some ((enc d[t / 3]!)[t % 3]!) := by
      rw [← get_flatK enc 3 d t ht, getElem!_pos (flatK enc 3 d) t (by simpa using ht)]
      simp
    rw [e]
    have hc : t = t / 3 * 3 ∧ t % 3 = 0 ∨ t = t / 3 * 3 + 1 ∧ t % 3 = 1 ∨ t = t / 3 * 3 + 2 ∧ t % 3 = 2 := by omega
    rcases hc with ⟨e1, e2⟩ | ⟨e1, e2⟩ | ⟨e1, e2⟩
    · rw [← e1] at h0; rw [h0, e2]; rfl
    · rw [← e1] at h1; rw [h1, e2]; rfl
    · rw [← e1] at h2; rw [h2, e2]; rfl
  · rw [List.getElem?_eq_none (by simpa using ht), List.getElem?_eq_none (by rw [rowM_length]; simp; omega)]
theorem put_take (F cur : Array Value) (h : F.size ≤ cur.size) : (putCells id 0 F cur).toList.take F.size = F.toList := by
  apply List.ext_getElem?
  intro k
  rw [List.getElem?_take]
  by_cases hk : k < F.size
  · rw [if_pos hk]
    unfold putCells
    simp only [Array.toList_mapIdx, List.getElem?_mapIdx, Array.getElem?_toList]
    rw [Array.getElem?_eq_getElem (by omega : k < cur.size), Array.getElem?_eq_getElem hk]
    simp [hk]
  · rw [if_neg hk, List.getElem?_eq_none (by simpa using hk)]

end Go.Proofs.YtgkgdgchkhdgjaaDoor.Srt
