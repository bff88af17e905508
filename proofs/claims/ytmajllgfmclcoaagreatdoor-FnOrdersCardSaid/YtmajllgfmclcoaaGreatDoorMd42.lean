/- OrdS in one text. -/
import Derived.Test.YtmajllgfmclcoaaGreatDoorMd37
import Derived.Test.YtmajllgfmclcoaaGreatDoorMd01
set_option linter.unusedVariables false
set_option linter.unusedSimpArgs false
namespace Go.Proofs.YtmajllgfmclcoaaGreatDoor.Til
open Go.RowKit Dom Dms Go.Joins
open Reg hiding add_none
open Cmp (own_at eqC_run)
theorem wpList_append_any {P : Program} (w : World) {ops : Array Oper} {rest : List Oper} {o : Oper} {a : Act} {Q : Exit → Act → World → Prop} (hgd : o.guard = none) (s x : Operand) (t : TypeId)
    (ho : o.op = .call { callee := .builtin .append, args := #[s, x], argTypes := #[t, t] })
    (base : Nat) (e : TypeId) (i : TypeInfo) (z : Value) (size bytes : Nat) (ht : P.underlying t = some (.slice e)) (hi : P.info? e = some i) (hz : i.zero = some z)
    (hsize : i.size = size) (hby : i.bytes = bytes) (hzs : z.cells.size = size) (hsz : 0 < size)
    (g n cap : Nat) (xs : List Value) (hs : a.eval s = .slice (some ⟨g, 0, none⟩) n cap) (hown : w.ownsRow base e size (.slice (some ⟨g, 0, none⟩) n cap) n xs)
    (ad : Addr) (m c : Nat) (news : List Value) (hx : a.eval x = .slice (some ad) m c) (hl : news.length = m * size) (hnews : ∀ j u, news[j]? = some u → w.cell? (ad.add j) = some u) (h1 : ∀ u ∈ news, u.oneCell' = true)
    (h63 : n + m ≤ maxLen) (hbytes : (n + m) * bytes ≤ 140737488355328) (hbase : base ≤ w.heap.size)
    (h : ∀ g' cap' w', w'.ownsRow base e size (.slice (some ⟨g', 0, none⟩) (n + m) cap') (n + m) (xs ++ news) → w.grownBy w' (some g) → (g' = g ∨ g' = w.heap.size) → g' < w'.heap.size → wpList P ops Q rest (a.put o.dst (.slice (some ⟨g', 0, none⟩) (n + m) cap')) w') : wpList P ops Q (o :: rest) a w := by
  rcases Nat.eq_zero_or_pos m with h0 | h0
  · have hnc : n ≤ cap := by
      rcases hown.2 with ⟨q, _⟩ | ⟨g', cap', cur, q, _, _, h1, _⟩
      · cases q
      · injection q with _ _ qc
        subst qc; exact h1
    refine wpList_append_fits w hgd s x t ho base e i size ht hi hsize g n cap xs hs hown ad m c news hx hl hnews h1 (by omega) ?_
    intro w' k1 k2
    refine h g cap w' k1 k2 (.inl rfl) ?_
    exact (k1.lt g rfl).2
  · refine wpList_append_lies w hgd s x t ho base e i z size bytes ht hi hz hsize hby hzs hsz _ n xs hs hown ad m c news hx hl hnews h1 h0 h63 hbytes hbase w.heap.size rfl ?_
    intro g' cap' w' k1 k2 k3 k4
    refine h g' cap' w' k1 k2 ?_ k4
    rcases k3 with k3 | k3
    · injection k3 with k3; exact .inl k3.symm
    · exact .inr k3
theorem rowM_one (L : List Dm) : ∀ v ∈ rowM L, v.oneCell' = true := by
  intro v hv
  unfold rowM at hv
  rw [List.mem_flatMap] at hv
  obtain ⟨d, _, hd⟩ := hv
  simp only [List.mem_cons, List.not_mem_nil, or_false] at hd
  rcases hd with rfl | rfl | rfl <;> rfl
theorem own_part {w : World} {base g n cap : Nat} {R : List Dm} (h : w.ownsRow base 63 3 (.slice (some ⟨g, 0, none⟩) n cap) n (rowM R)) (t : Nat) (S : List Dm) (hS : ∀ i d, S[i]? = some d → R[t + i]? = some d) (q : Nat) (hq : q = t * 3) :
    ∀ j u, (rowM S)[j]? = some u → w.cell? ((⟨g, q, none⟩ : Addr).add j) = some u := by
  subst hq
  intro j u hu
  have hj := (List.getElem?_eq_some_iff.1 hu).1
  rw [rowM_length] at hj
  have hd : S[j / 3]? = some (S[j / 3]'(by omega)) := List.getElem?_eq_getElem _
  have hR := hS _ _ hd
  obtain ⟨a0, a1, a2⟩ := rowM_at S _ _ hd
  obtain ⟨c0, c1, c2⟩ := own_at h hR ((t + j / 3) * 3) rfl
  rw [add_none]
  have hc : j = j / 3 * 3 ∨ j = j / 3 * 3 + 1 ∨ j = j / 3 * 3 + 2 := by omega
  rcases hc with e | e | e
  · rw [show t * 3 + j = (t + j / 3) * 3 by omega, c0, ← hu]
    rw [← e] at a0; exact a0.symm
  · rw [show t * 3 + j = (t + j / 3) * 3 + 1 by omega, c1, ← hu]
    rw [← e] at a1; exact a1.symm
  · rw [show t * 3 + j = (t + j / 3) * 3 + 2 by omega, c2, ← hu]
    rw [← e] at a2; exact a2.symm
theorem part_pre (R : List Dm) (k : Nat) : ∀ i d, (R.take k)[i]? = some d → R[0 + i]? = some d := by
  intro i d h
  rw [List.getElem?_take] at h
  rw [Nat.zero_add]
  split at h
  · exact h
  · cases h
theorem part_suf (R : List Dm) (k : Nat) : ∀ i d, (R.drop k)[i]? = some d → R[k + i]? = some d := by
  intro i d h
  rwa [List.getElem?_drop] at h
theorem ins_mid {S : List Dm} {d : Dm} {t : Nat} (hd : okM d = true) (hc : cut S d = t) (hne : S[t]? ≠ some d) : ins S d = S.take t ++ d :: S.drop t := by
  unfold ins
  rw [hc, if_neg (by rintro (h | h); · rw [hd] at h; cases h
                     · exact hne h)]
theorem ins_same {S : List Dm} {d : Dm} {t : Nat} (hc : cut S d = t) (he : S[t]? = some d) : ins S d = S := by
  unfold ins; rw [hc, if_pos (.inr he)]
theorem ins_bad {S : List Dm} {d : Dm} (hd : okM d = false) : ins S d = S := by
  unfold ins; rw [if_pos (.inl hd)]
def Bf (S : List Dm) (d : Dm) (t : Nat) : Prop := ∀ i e, i < t → S[i]? = some e → befM e d = true
theorem Bf.zero (S : List Dm) (d : Dm) : Bf S d 0 := fun i e h => by omega
theorem Bf.succ {S : List Dm} {d : Dm} {t : Nat} (h : Bf S d t) {e : Dm} (he : S[t]? = some e) (hb : befM e d = true) : Bf S d (t + 1) := by
  intro i e' hi he'
  by_cases q : i = t
  · subst q; rw [he] at he'; injection he' with he'; subst he'; exact hb
  · exact h i e' (by omega) he'
set_option maxRecDepth 100000 in
set_option maxHeartbeats 4000000 in
theorem sSortDominoes (w : World) (A : Option Addr) (n cap B : Nat) (L : List Dm) (hL : L.length = n) (hn : (n : Int) ≤ 1048576) (h : RowM w B A L) (hB : B ≤ w.heap.size) :
    Calls Tryz.prog 88 #[.slice A n cap] w (DmPost (sortM L) (sortM L).length w) := by
  obtain ⟨i0, hi, hz0, hz1, hz2⟩ := info_parts domInfo
  have HM := World.ownsRow_made (e := 63) (size := 3) w #[] 0 NR (by unfold maxLen; omega) rfl
  obtain ⟨b0, off, h1, h2⟩ := h.at
  have HA := Lh (fun hp => h1 hp)
  have HC := Lh h2
  have HL := Lh hL
  have HB := Lh hB
  have HBw := Lh (below_alloc1 w (.cells #[] 63))
  clear h h1 h2 hL hB
  go_enter Tryz.func88, Tryz.ntmps88
  go_wp2_with fail
  have HO := Lh HM
  clear HM
  go_loopw [3, 4] (fun v i wr => ∃ j m g c : Nat, j ≤ n ∧ i = .int .i64 j ∧ v = .slice (some ⟨g, 0, none⟩) m c ∧ m = (sortM (L.take j)).length ∧ m ≤ j ∧ m ≤ c ∧ wr.ownsRow w.heap.size 63 3 (.slice (some ⟨g, 0, none⟩) m c) m (rowM (sortM (L.take j))) ∧ Below w.heap.size w wr) (fun _ i _ => n - (intOf i).toNat)
  case atStart => exact ⟨0, 0, w.heap.size, 0, Nat.zero_le _, rfl, rfl, by simp [sortM], Nat.le_refl _, Nat.le_refl _, by simpa [sortM, rowM] using HO.out, HBw.out⟩
  case round =>
    clear HO HBw
    obtain ⟨j, m, g, cg, hj, rfl, rfl, hm, hmj, hmc, hown, hb⟩ := hrel
    have hbs := hb.size
    by_cases hlt : j < n
    · have hjL : j < L.length := by have := HL.out; omega
      obtain ⟨rfl, hbB⟩ := HA.out (by omega)
      have hbw : b0 < w.heap.size := by have := HB.out; omega
      have HCj := Lh (fun (W : World) (hb : Below w.heap.size w W) => (show _ ∧ _ ∧ _ from ⟨(hb.cell (p := ⟨b0, off + j * 3, none⟩) hbw).trans (HC.out j hjL).1, (hb.cell (p := ⟨b0, off + j * 3 + 1, none⟩) hbw).trans (HC.out j hjL).2.1, (hb.cell (p := ⟨b0, off + j * 3 + 2, none⟩) hbw).trans (HC.out j hjL).2.2⟩))
      have HStep := Lh (sortM_step (L := L) hjL)
      generalize L[j] = d at HCj HStep
      obtain ⟨x, y, b⟩ := d
      simp only at HCj
      have HD := Lh (fun W => sDominoOk x y b W)
      have HOk := Lh (show okM (x, y, b) = domB x y b from rfl)
      generalize domB x y b = p at HD HOk
      have HM := Lh hm
      have HOwn := Lh hown
      generalize hSS : sortM (L.take j) = S at HStep HM HOwn
      clear hm hown hSS
      obtain ⟨c0, c1, c2⟩ := HCj.out _ hb
      go_wp2_with fail
      refine (HD.out _).mono ?_
      rintro e w1 ⟨rfl, hb1⟩
      have HO1 := Lh (Reg.own_below HOwn.out hb1 NR)
      have hbb := hb.trans (hb1.mono hbs)
      have hs1 := hb1.size
      clear hb1 HOwn HD c0 c1 c2 hb
      cases p with
      | false =>
        have HE := Lh (show sortM (L.take (j + 1)) = S by rw [HStep.out]; exact ins_bad HOk.out)
        go_wp2
        go_roundw
        case rel => exact ⟨j + 1, m, g, cg, by omega, by go_num, rfl, by rw [HE.out]; exact HM.out, by omega, hmc, by rw [HE.out]; exact HO1.out, hbb⟩
        case measure => (simp [intOf] <;> omega)
      | true =>
        go_wp2_with fail
        go_loopw [5] (fun a wr2 => ∃ t : Nat, t ≤ m ∧ a = .int .i64 t ∧ wr2.ownsRow w.heap.size 63 3 (.slice (some ⟨g, 0, none⟩) m cg) m (rowM S) ∧ Below w.heap.size w wr2 ∧ Hid (Bf S (x, y, b) t)) (fun a _ => m - (intOf a).toNat)
        case atStart => exact ⟨0, Nat.zero_le _, rfl, HO1.out, hbb, Lh (Bf.zero _ _)⟩
        case round =>
          clear HO1 hbb hs1
          obtain ⟨t, ht, rfl, hown, hb, hBf⟩ := hrel
          have hbs2 := hb.size
          have hHd := HCj.out _ hb
          by_cases hlt2 : t < m
          · have htS : t < S.length := by have := HM.out; omega
            have hcS := own_at hown (List.getElem?_eq_getElem htS) (t * 3) rfl
            have HSt := Lh (List.getElem?_eq_getElem (l := S) htS)
            generalize S[t] = q at hcS HSt
            obtain ⟨u, v, c⟩ := q
            simp only at hcS
            have HBe := Lh (fun W => sIsBefore u v c x y b W)
            have HBq := Lh (show befM (u, v, c) (x, y, b) = befB u v c x y b from rfl)
            generalize befB u v c x y b = r at HBe HBq
            have HO2 := Lh hown
            have hcnt : (t : Int) < (m : Int) := by omega
            clear hown
            go_upto_region 7 with fail
            refine wp_region_noPanic ?_
            refine wp_region_held_drew (S := (fun w' => w'.cell? ⟨g, t * 3, none⟩ = some (.int .i64 u) ∧ w'.cell? ⟨g, t * 3 + 1, none⟩ = some (.int .i64 v) ∧ w'.cell? ⟨g, t * 3 + 2, none⟩ = some (.bool c) ∧ w'.cell? ⟨b0, off + j * 3, none⟩ = some (.int .i64 x) ∧ w'.cell? ⟨b0, off + j * 3 + 1, none⟩ = some (.int .i64 y) ∧ w'.cell? ⟨b0, off + j * 3 + 2, none⟩ = some (.bool b))) (by kernel_rfl) (⟨hcS.1, hcS.2.1, hcS.2.2, hHd⟩) (fun hHeld => ?_)
            refine tka 0 ?_; try simp only [Act.put, zk]
            refine tka 1 ?_; try simp only [Act.put, zk]
            refine tka 2 ?_; try simp only [Act.put, zk]
            refine tka 3 ?_; try simp only [Act.put, zk]
            refine tka 4 ?_; try simp only [Act.put, zk]
            refine tka 5 ?_; try simp only [Act.put, zk]
            refine tka 6 ?_; try simp only [Act.put, zk]
            refine tka 7 ?_; try simp only [Act.put, zk]
            refine tka 8 ?_; try simp only [Act.put, zk]
            refine tka 9 ?_; try simp only [Act.put, zk]
            refine tka 10 ?_; try simp only [Act.put, zk]
            refine tka 11 ?_; try simp only [Act.put, zk]
            refine tka 12 ?_; try simp only [Act.put, zk]
            refine tr 13 fun K hK => ?_
            go_simp
            refine (HBe.out _).mono ?_
            rintro e wx ⟨rfl, hbx⟩
            have hglt : g < wr.drew.heap.size := (HO2.out.lt g rfl).2
            have hb3 : Below w.heap.size w wx := hb.drew.trans (hbx.mono hbs2)
            have HO3 := Lh (Reg.own_below (show wr.drew.ownsRow w.heap.size 63 3 (.slice (some ⟨g, 0, none⟩) m cg) m (rowM S) from HO2.out) hbx NR)
            go_wp2_with fail
            refine hK.out _ _ (⟨(hbx.cell (p := ⟨g, t * 3, none⟩) hglt).trans hcS.1, (hbx.cell (p := ⟨g, t * 3 + 1, none⟩) hglt).trans hcS.2.1, (hbx.cell (p := ⟨g, t * 3 + 2, none⟩) hglt).trans hcS.2.2, HCj.out _ hb3⟩) (fun hHeld => ?_)
            clear hK K
            try simp only [Act.put, zk]
            refine tka 14 ?_; try simp only [Act.put, zk]
            refine wpAnyH_done (by kernel_rfl) (NoPanic.normal ?_) _
            have hcS3 : _ ∧ _ ∧ _ := ⟨(hbx.cell (p := ⟨g, t * 3, none⟩) hglt).trans hcS.1, (hbx.cell (p := ⟨g, t * 3 + 1, none⟩) hglt).trans hcS.2.1, (hbx.cell (p := ⟨g, t * 3 + 2, none⟩) hglt).trans hcS.2.2⟩
            clear hHeld hcS hHd hbx HBe HO2 hb hglt
            generalize wx = W3 at hb3 HO3 hcS3 ⊢
            cases r with
            | true =>
              have HB2 := Lh (hBf.out.succ HSt.out HBq.out)
              clear hcS3
              go_wp2
              go_roundw
              case rel => exact ⟨t + 1, by omega, by go_num, HO3.out, hb3, HB2⟩
              case measure => (simp [intOf] <;> omega)
            | false =>
              have HCut := Lh (show cut S (x, y, b) = t from cut_hit hBf.out (fun e he => by rw [HSt.out] at he; injection he with he; subst he; exact HBq.out) (by omega))
              have hHd := HCj.out _ hb3
              by_cases he : u = x ∧ v = y ∧ c = b
              · obtain ⟨rfl, rfl, rfl⟩ := he
                have HE := Lh (show sortM (L.take (j + 1)) = S by rw [HStep.out]; exact ins_same HCut.out HSt.out)
                clear hBf
                go_upto_region 9 with fail
                refine wp_region_noPanic ?_
                refine wp_region_held_drew (S := (fun w' => w'.cell? ⟨g, t * 3, none⟩ = some (.int .i64 u) ∧ w'.cell? ⟨g, t * 3 + 1, none⟩ = some (.int .i64 v) ∧ w'.cell? ⟨g, t * 3 + 2, none⟩ = some (.bool c) ∧ w'.cell? ⟨b0, off + j * 3, none⟩ = some (.int .i64 u) ∧ w'.cell? ⟨b0, off + j * 3 + 1, none⟩ = some (.int .i64 v) ∧ w'.cell? ⟨b0, off + j * 3 + 2, none⟩ = some (.bool c))) (by kernel_rfl) (⟨hcS3.1, hcS3.2.1, hcS3.2.2, hHd⟩) (fun hHeld => ?_)
                refine tka 0 ?_; try simp only [Act.put, zk]
                refine tka 1 ?_; try simp only [Act.put, zk]
                refine tka 2 ?_; try simp only [Act.put, zk]
                refine tka 3 ?_; try simp only [Act.put, zk]
                refine tka 4 ?_; try simp only [Act.put, zk]
                refine tka 5 ?_; try simp only [Act.put, zk]
                refine tka 6 ?_; try simp only [Act.put, zk]
                refine tka 7 ?_; try simp only [Act.put, zk]
                refine tka 8 ?_; try simp only [Act.put, zk]
                refine tka 9 ?_; try simp only [Act.put, zk]
                refine tka 10 ?_; try simp only [Act.put, zk]
                refine tka 11 ?_; try simp only [Act.put, zk]
                refine tka 12 ?_; try simp only [Act.put, zk]
                refine tka 13 ?_; try simp only [Act.put, zk]
                refine tka 14 ?_; try simp only [Act.put, zk]
                refine wpAnyH_done (by kernel_rfl) (NoPanic.normal ?_) _
                clear hHeld hHd hcS3
                have hb4 := hb3.drew
                have HO4 := Lh (show W3.drew.ownsRow w.heap.size 63 3 (.slice (some ⟨g, 0, none⟩) m cg) m (rowM S) from HO3.out)
                clear hb3 HO3
                go_wp2
                go_roundw
                case rel => exact ⟨j + 1, m, g, cg, by omega, by go_num, rfl, by rw [HE.out]; exact HM.out, by omega, hmc, by rw [HE.out]; exact HO4.out, hb4⟩
                case measure => (simp [intOf] <;> omega)
              · have HRn := Lh (fun a o t1 t2 w' => eqC_run he a o t1 t2 w')
                have HE := Lh (show sortM (L.take (j + 1)) = S.take t ++ (x, y, b) :: S.drop t by
                  rw [HStep.out]; exact ins_mid HOk.out HCut.out (by rw [HSt.out]; intro e; injection e with e; injection e with e1 e; injection e with e2 e3; exact he ⟨e1, e2, e3⟩))
                clear he hBf
                go_upto_region 9 with fail
                refine wp_region_noPanic ?_
                refine wp_region_held_drew (S := (fun w' => w'.cell? ⟨g, t * 3, none⟩ = some (.int .i64 u) ∧ w'.cell? ⟨g, t * 3 + 1, none⟩ = some (.int .i64 v) ∧ w'.cell? ⟨g, t * 3 + 2, none⟩ = some (.bool c) ∧ w'.cell? ⟨b0, off + j * 3, none⟩ = some (.int .i64 x) ∧ w'.cell? ⟨b0, off + j * 3 + 1, none⟩ = some (.int .i64 y) ∧ w'.cell? ⟨b0, off + j * 3 + 2, none⟩ = some (.bool b))) (by kernel_rfl) (⟨hcS3.1, hcS3.2.1, hcS3.2.2, hHd⟩) (fun hHeld => ?_)
                refine tka 0 ?_; try simp only [Act.put, zk]
                refine tka 1 ?_; try simp only [Act.put, zk]
                refine tka 2 ?_; try simp only [Act.put, zk]
                refine tka 3 ?_; try simp only [Act.put, zk]
                refine tka 4 ?_; try simp only [Act.put, zk]
                refine tka 5 ?_; try simp only [Act.put, zk]
                refine tka 6 ?_; try simp only [Act.put, zk]
                refine tka 7 ?_; try simp only [Act.put, zk]
                refine tka 8 ?_; try simp only [Act.put, zk]
                refine tka 9 ?_; try simp only [Act.put, zk]
                refine tka 10 ?_; try simp only [Act.put, zk]
                refine tka 11 ?_; try simp only [Act.put, zk]
                refine tka 12 ?_; try simp only [Act.put, zk]
                refine wpAnyH_take (i := 13) (v := .bool false) rfl (by kernel_rfl) (by kernel_rfl) (by kernel_rfl) (fun _ _ _ h => h) (Or.inl ⟨by rfl, fun w' hS => HRn.out _ _ _ _ w' rfl (by kernel_rfl) (by kernel_rfl)⟩) (by assumption) ?_
                try simp only [Act.put, zk]
                refine tka 14 ?_; try simp only [Act.put, zk]
                refine wpAnyH_done (by kernel_rfl) (NoPanic.normal ?_) _
                clear hHeld hHd
                have hb4 := hb3.drew
                have HO4 := Lh (show W3.drew.ownsRow w.heap.size 63 3 (.slice (some ⟨g, 0, none⟩) m cg) m (rowM S) from HO3.out)
                clear hb3 HO3
                generalize W3.drew = W4 at hb4 HO4 ⊢
                have hSl : S.length = m := HM.out.symm
                have hbs4 := hb4.size
                have hmade := Lh (Reg.own_base (B' := w.heap.size) (World.ownsRow_made (e := 63) (size := 3) W4 #[] 0 NR (by unfold maxLen; omega) rfl) hbs4)
                have HO5 := Lh (HO4.out.alloc (.cells #[] 63))
                have hgl := (HO4.out.lt g rfl).2
                have hb5 := hb4.alloc hbs4 (.cells #[] 63)
                have hz5 : (W4.alloc (.cells #[] 63)).heap.size = W4.heap.size + 1 := by simp
                have htc : (t : Int) ≤ (cg : Int) := by omega
                have hN1 := Lh (own_part HO5.out 0 (S.take t) (part_pre S t) 0 rfl)
                have hTl : (rowM (S.take t)).length = t * 3 := by rw [rowM_length, List.length_take]; omega
                have HTl := Lh hTl
                clear HO4 hb4 hTl
                go_upto_region 11 with (first
                  | (at_builtin; refine wpList_append_any _ rfl _ _ 27 rfl w.heap.size 63 i0 (.agg #[.int .i64 0, .int .i64 0, .bool false]) 3 24 Tryz.underlying27 hi hz0 hz1 hz2 rfl (by decide) W4.heap.size 0 0 [] (by rfl) hmade.out ⟨g, 0, none⟩ t cg (rowM (S.take t)) (by rfl) HTl.out hN1.out (rowM_one _) (by unfold maxLen; omega) (by omega) (by omega) ?_; intro g6 c6 w6 hown6 hgr6 hat6 hlt6))
                have hb6 := hb5.grown hgr6 hb5.size (fun k hk => by have hk2 : W4.heap.size = k := by { injection hk }; omega)
                have HO6 := Lh (HO5.out.kept hgr6 (.inr (by intro e; have e2 : g = W4.heap.size := by { injection e }; omega)))
                have hg6 : g6 ≠ g ∧ W4.heap.size ≤ g6 := by rw [hz5] at hat6; omega
                have HN6 := Lh hown6
                have hs6 := hgr6.size
                clear hown6 hgr6 hat6 hb5 HO5 hmade hN1
                rw [Nat.zero_add] at HN6
                rw [List.nil_append] at HN6
                obtain ⟨c0, c1, c2⟩ := HCj.out _ hb6
                go_upto_region 12 with (first
                  | (at_builtin; refine wpList_append_any _ rfl _ _ 27 rfl w.heap.size 63 i0 (.agg #[.int .i64 0, .int .i64 0, .bool false]) 3 24 Tryz.underlying27 hi hz0 hz1 hz2 rfl (by decide) g6 t c6 (rowM (S.take t)) (by first | rfl | (simp; rfl)) (HN6.out.alloc _) ⟨w6.heap.size, 0, none⟩ 1 1 [.int .i64 x, .int .i64 y, .bool b] (by rfl) rfl (World.news_of_block (cs := #[.int .i64 x, .int .i64 y, .bool b]) (t := 63) (fr := (0, 0)) (heap_alloc_new w6 _)) (by simp [Value.oneCell']) (by unfold maxLen; omega) (by omega) (by have := hb6.size; simp; omega) ?_; intro g7 c7 w7 hown7 hgr7 hat7 hlt7))
                have hs6b := hb6.size
                have hb7 := (hb6.alloc hs6b (.cells #[.int .i64 x, .int .i64 y, .bool b] 63)).grown hgr7 (by simp; omega) (fun k hk => by have hk2 : g6 = k := by { injection hk }; omega)
                have HO7 := Lh ((HO6.out.alloc (.cells #[.int .i64 x, .int .i64 y, .bool b] 63)).kept hgr7 (.inr (by intro e; have e2 : g = g6 := by { injection e }; omega)))
                have hg7 : g7 ≠ g := by
                  have hz : (w6.alloc (.cells #[.int .i64 x, .int .i64 y, .bool b] 63)).heap.size = w6.heap.size + 1 := by simp
                  have := (HO6.out.lt g rfl).2
                  rw [hz] at hat7; omega
                have HN7 := Lh (show w7.ownsRow w.heap.size 63 3 (.slice (some ⟨g7, 0, none⟩) (t + 1) c7) (t + 1) (rowM (S.take t ++ [(x, y, b)])) by rw [rowM_snoc]; exact hown7)
                have hs7 := hb7.size
                have hN2 := Lh (own_part HO7.out t (S.drop t) (part_suf S t) (t * 3) rfl)
                have hDl : (rowM (S.drop t)).length = (m - t) * 3 := by rw [rowM_length, List.length_drop, hSl]
                have HDl := Lh hDl
                have htm : (t : Int) ≤ (m : Int) := by omega
                have hmcg : (m : Int) ≤ (cg : Int) := by omega
                clear hown7 hgr7 hat7 hb6 HO6 HN6 c0 c1 c2 hDl
                have hct : ¬ (cg = t) := by omega
                go_wp2_with (first
                  | (at_builtin; refine wpList_append_any _ rfl _ _ 27 rfl w.heap.size 63 i0 (.agg #[.int .i64 0, .int .i64 0, .bool false]) 3 24 Tryz.underlying27 hi hz0 hz1 hz2 rfl (by decide) g7 (t + 1) c7 (rowM (S.take t ++ [(x, y, b)])) (by rfl) HN7.out ⟨g, t * 3, none⟩ (m - t) (cg - t) (rowM (S.drop t)) (by rfl) HDl.out hN2.out (rowM_one _) (by unfold maxLen; omega) (by omega) (by omega) ?_; intro g8 c8 w8 hown8 hgr8 hat8 hlt8))
                have hb8 := hb7.grown hgr8 hs7 (fun k hk => by have hk2 : g7 = k := by { injection hk }; have := (HN7.out.lt g7 rfl).1; omega)
                have hcount : t + 1 + (m - t) = m + 1 := by omega
                have hc8 : m + 1 ≤ c8 := by
                  rcases hown8.2 with ⟨q, _⟩ | ⟨g', cap', cur, q, _, _, h1, _⟩
                  · cases q
                  · injection q with _ _ qc
                    subst qc; omega
                have R := Lh (show w8.ownsRow w.heap.size 63 3 (.slice (some ⟨g8, 0, none⟩) (m + 1) c8) (m + 1) (rowM (sortM (L.take (j + 1)))) by
                  rw [HE.out, show S.take t ++ (x, y, b) :: S.drop t = (S.take t ++ [(x, y, b)]) ++ S.drop t by simp, rowM_app, ← hcount]; exact hown8)
                have HLn := Lh (show m + 1 = (sortM (L.take (j + 1))).length by rw [HE.out]; simp [hSl] <;> omega)
                clear hown8 hgr8 hat8 hlt8 hb7 HO7 HN7 hN2
                rw [hcount]
                go_wp2
                go_roundw
                case rel => exact ⟨j + 1, m + 1, g8, c8, by omega, by go_num, rfl, HLn.out, by omega, hc8, R.out, hb8⟩
                case measure => (simp [intOf] <;> omega)
          · obtain rfl : t = m := by omega
            have HCut := Lh (show cut S (x, y, b) = t from cut_hit hBf.out (fun e he => by rw [List.getElem?_eq_none (by have := HM.out; omega)] at he; cases he) (by have := HM.out; omega))
            have HE := Lh (show sortM (L.take (j + 1)) = S.take t ++ (x, y, b) :: S.drop t by
              rw [HStep.out]; exact ins_mid HOk.out HCut.out (by rw [List.getElem?_eq_none (by have := HM.out; omega)]; intro e; cases e))
            clear hBf hlt2
            go_upto_region 7 with fail
            refine wp_region_noPanic ?_
            refine wp_region_held_drew (S := (fun w' => True)) (by kernel_rfl) trivial (fun hHeld => ?_)
            refine tka 0 ?_; try simp only [Act.put, zk]
            refine tka 1 ?_; try simp only [Act.put, zk]
            refine tka 2 ?_; try simp only [Act.put, zk]
            refine tka 3 ?_; try simp only [Act.put, zk]
            refine tka 4 ?_; try simp only [Act.put, zk]
            refine tu 5 ?_; try simp only [Act.put, zk]
            refine tu 6 ?_; try simp only [Act.put, zk]
            refine tu 7 ?_; try simp only [Act.put, zk]
            refine tu 8 ?_; try simp only [Act.put, zk]
            refine tu 9 ?_; try simp only [Act.put, zk]
            refine tu 10 ?_; try simp only [Act.put, zk]
            refine tu 11 ?_; try simp only [Act.put, zk]
            refine tu 12 ?_; try simp only [Act.put, zk]
            refine tu 13 ?_; try simp only [Act.put, zk]
            refine tka 14 ?_; try simp only [Act.put, zk]
            refine wpAnyH_done (by kernel_rfl) (NoPanic.normal ?_) _
            clear hHeld
            have hb3 := hb.drew
            have HO3 := Lh (show wr.drew.ownsRow w.heap.size 63 3 (.slice (some ⟨g, 0, none⟩) t cg) t (rowM S) from hown)
            clear hown hb
            generalize wr.drew = W3 at hb3 HO3 ⊢
            go_upto_region 9 with fail
            refine wp_region_noPanic ?_
            refine wp_region_held_drew (S := (fun w' => True)) (by kernel_rfl) trivial (fun hHeld => ?_)
            refine tka 0 ?_; try simp only [Act.put, zk]
            refine tka 1 ?_; try simp only [Act.put, zk]
            refine tka 2 ?_; try simp only [Act.put, zk]
            refine tka 3 ?_; try simp only [Act.put, zk]
            refine tka 4 ?_; try simp only [Act.put, zk]
            refine tu 5 ?_; try simp only [Act.put, zk]
            refine tu 6 ?_; try simp only [Act.put, zk]
            refine tu 7 ?_; try simp only [Act.put, zk]
            refine tu 8 ?_; try simp only [Act.put, zk]
            refine tu 9 ?_; try simp only [Act.put, zk]
            refine tu 10 ?_; try simp only [Act.put, zk]
            refine tu 11 ?_; try simp only [Act.put, zk]
            refine tu 12 ?_; try simp only [Act.put, zk]
            refine tu 13 ?_; try simp only [Act.put, zk]
            refine tka 14 ?_; try simp only [Act.put, zk]
            refine wpAnyH_done (by kernel_rfl) (NoPanic.normal ?_) _
            clear hHeld hHd
            have hb4 := hb3.drew
            have HO4 := Lh (show W3.drew.ownsRow w.heap.size 63 3 (.slice (some ⟨g, 0, none⟩) t cg) t (rowM S) from HO3.out)
            clear hb3 HO3
            generalize W3.drew = W4 at hb4 HO4 ⊢
            have hSl : S.length = t := HM.out.symm
            have hbs4 := hb4.size
            have hmade := Lh (Reg.own_base (B' := w.heap.size) (World.ownsRow_made (e := 63) (size := 3) W4 #[] 0 NR (by unfold maxLen; omega) rfl) hbs4)
            have HO5 := Lh (HO4.out.alloc (.cells #[] 63))
            have hgl := (HO4.out.lt g rfl).2
            have hb5 := hb4.alloc hbs4 (.cells #[] 63)
            have hz5 : (W4.alloc (.cells #[] 63)).heap.size = W4.heap.size + 1 := by simp
            have htc : (t : Int) ≤ (cg : Int) := by omega
            have hN1 := Lh (own_part HO5.out 0 (S.take t) (part_pre S t) 0 rfl)
            have hTl : (rowM (S.take t)).length = t * 3 := by rw [rowM_length, List.length_take]; omega
            have HTl := Lh hTl
            clear HO4 hb4 hTl
            go_upto_region 11 with (first
              | (at_builtin; refine wpList_append_any _ rfl _ _ 27 rfl w.heap.size 63 i0 (.agg #[.int .i64 0, .int .i64 0, .bool false]) 3 24 Tryz.underlying27 hi hz0 hz1 hz2 rfl (by decide) W4.heap.size 0 0 [] (by rfl) hmade.out ⟨g, 0, none⟩ t cg (rowM (S.take t)) (by rfl) HTl.out hN1.out (rowM_one _) (by unfold maxLen; omega) (by omega) (by omega) ?_; intro g6 c6 w6 hown6 hgr6 hat6 hlt6))
            have hb6 := hb5.grown hgr6 hb5.size (fun k hk => by have hk2 : W4.heap.size = k := by { injection hk }; omega)
            have HO6 := Lh (HO5.out.kept hgr6 (.inr (by intro e; have e2 : g = W4.heap.size := by { injection e }; omega)))
            have hg6 : g6 ≠ g ∧ W4.heap.size ≤ g6 := by rw [hz5] at hat6; omega
            have HN6 := Lh hown6
            have hs6 := hgr6.size
            clear hown6 hgr6 hat6 hb5 HO5 hmade hN1
            rw [Nat.zero_add] at HN6
            rw [List.nil_append] at HN6
            obtain ⟨c0, c1, c2⟩ := HCj.out _ hb6
            go_upto_region 12 with (first
              | (at_builtin; refine wpList_append_any _ rfl _ _ 27 rfl w.heap.size 63 i0 (.agg #[.int .i64 0, .int .i64 0, .bool false]) 3 24 Tryz.underlying27 hi hz0 hz1 hz2 rfl (by decide) g6 t c6 (rowM (S.take t)) (by first | rfl | (simp; rfl)) (HN6.out.alloc _) ⟨w6.heap.size, 0, none⟩ 1 1 [.int .i64 x, .int .i64 y, .bool b] (by rfl) rfl (World.news_of_block (cs := #[.int .i64 x, .int .i64 y, .bool b]) (t := 63) (fr := (0, 0)) (heap_alloc_new w6 _)) (by simp [Value.oneCell']) (by unfold maxLen; omega) (by omega) (by have := hb6.size; simp; omega) ?_; intro g7 c7 w7 hown7 hgr7 hat7 hlt7))
            have hs6b := hb6.size
            have hb7 := (hb6.alloc hs6b (.cells #[.int .i64 x, .int .i64 y, .bool b] 63)).grown hgr7 (by simp; omega) (fun k hk => by have hk2 : g6 = k := by { injection hk }; omega)
            have HO7 := Lh ((HO6.out.alloc (.cells #[.int .i64 x, .int .i64 y, .bool b] 63)).kept hgr7 (.inr (by intro e; have e2 : g = g6 := by { injection e }; omega)))
            have hg7 : g7 ≠ g := by
              have hz : (w6.alloc (.cells #[.int .i64 x, .int .i64 y, .bool b] 63)).heap.size = w6.heap.size + 1 := by simp
              have := (HO6.out.lt g rfl).2
              rw [hz] at hat7; omega
            have HN7 := Lh (show w7.ownsRow w.heap.size 63 3 (.slice (some ⟨g7, 0, none⟩) (t + 1) c7) (t + 1) (rowM (S.take t ++ [(x, y, b)])) by rw [rowM_snoc]; exact hown7)
            have hs7 := hb7.size
            have hN2 := Lh (own_part HO7.out t (S.drop t) (part_suf S t) (t * 3) rfl)
            have hDl : (rowM (S.drop t)).length = (t - t) * 3 := by rw [rowM_length, List.length_drop, hSl]
            have HDl := Lh hDl
            have htm : (t : Int) ≤ (t : Int) := by omega
            have hmcg : (t : Int) ≤ (cg : Int) := by omega
            clear hown7 hgr7 hat7 hb6 HO6 HN6 c0 c1 c2 hDl
            by_cases hct : cg = t
            · go_wp2_with (first
                | (at_builtin; refine wpList_append_any _ rfl _ _ 27 rfl w.heap.size 63 i0 (.agg #[.int .i64 0, .int .i64 0, .bool false]) 3 24 Tryz.underlying27 hi hz0 hz1 hz2 rfl (by decide) g7 (t + 1) c7 (rowM (S.take t ++ [(x, y, b)])) (by rfl) HN7.out ⟨g, 0, none⟩ 0 0 [] (by rfl) rfl (by intro j u hu; simp at hu) (by simp) (by unfold maxLen; omega) (by omega) (by omega) ?_; intro g8 c8 w8 hown8 hgr8 hat8 hlt8))
              have hb8 := hb7.grown hgr8 hs7 (fun k hk => by have hk2 : g7 = k := by { injection hk }; have := (HN7.out.lt g7 rfl).1; omega)
              have hcount : t + 1 + 0 = t + 1 := by omega
              have hc8 : t + 1 ≤ c8 := by
                rcases hown8.2 with ⟨q, _⟩ | ⟨g', cap', cur, q, _, _, h1, _⟩
                · cases q
                · injection q with _ _ qc
                  subst qc; omega
              have R := Lh (show w8.ownsRow w.heap.size 63 3 (.slice (some ⟨g8, 0, none⟩) (t + 1) c8) (t + 1) (rowM (sortM (L.take (j + 1)))) by
                rw [HE.out, show S.drop t = [] from List.drop_eq_nil_of_le (by omega)]; rw [List.append_nil] at hown8; exact hown8)
              have HLn := Lh (show t + 1 = (sortM (L.take (j + 1))).length by rw [HE.out]; simp [hSl] <;> omega)
              clear hown8 hgr8 hat8 hlt8 hb7 HO7 HN7 hN2
              rw [Nat.add_zero]
              go_wp2
              go_roundw
              case rel => exact ⟨j + 1, t + 1, g8, c8, by omega, by go_num, rfl, HLn.out, by omega, hc8, R.out, hb8⟩
              case measure => (simp [intOf] <;> omega)
            · go_wp2_with (first
                | (at_builtin; refine wpList_append_any _ rfl _ _ 27 rfl w.heap.size 63 i0 (.agg #[.int .i64 0, .int .i64 0, .bool false]) 3 24 Tryz.underlying27 hi hz0 hz1 hz2 rfl (by decide) g7 (t + 1) c7 (rowM (S.take t ++ [(x, y, b)])) (by rfl) HN7.out ⟨g, t * 3, none⟩ 0 (cg - t) [] (by rfl) rfl (by intro j u hu; simp at hu) (by simp) (by unfold maxLen; omega) (by omega) (by omega) ?_; intro g8 c8 w8 hown8 hgr8 hat8 hlt8))
              have hb8 := hb7.grown hgr8 hs7 (fun k hk => by have hk2 : g7 = k := by { injection hk }; have := (HN7.out.lt g7 rfl).1; omega)
              have hcount : t + 1 + 0 = t + 1 := by omega
              have hc8 : t + 1 ≤ c8 := by
                rcases hown8.2 with ⟨q, _⟩ | ⟨g', cap', cur, q, _, _, h1, _⟩
                · cases q
                · injection q with _ _ qc
                  subst qc; omega
              have R := Lh (show w8.ownsRow w.heap.size 63 3 (.slice (some ⟨g8, 0, none⟩) (t + 1) c8) (t + 1) (rowM (sortM (L.take (j + 1)))) by
                rw [HE.out, show S.drop t = [] from List.drop_eq_nil_of_le (by omega)]; rw [List.append_nil] at hown8; exact hown8)
              have HLn := Lh (show t + 1 = (sortM (L.take (j + 1))).length by rw [HE.out]; simp [hSl] <;> omega)
              clear hown8 hgr8 hat8 hlt8 hb7 HO7 HN7 hN2
              rw [Nat.add_zero]
              go_wp2
              go_roundw
              case rel => exact ⟨j + 1, t + 1, g8, c8, by omega, by go_num, rfl, HLn.out, by omega, hc8, R.out, hb8⟩
              case measure => (simp [intOf] <;> omega)
    · obtain rfl : j = n := by omega
      have HE := Lh (show sortM (L.take j) = sortM L by rw [← HL.out, List.take_length])
      rw [HE.out] at hown hm
      have HO := Lh hown
      have HM := Lh hm
      clear hown hm
      go_wp2
      go_ret
      rw [← HM.out]
      exact ⟨_, _, rfl, hmc, HO.out, hb⟩
end Go.Proofs.YtmajllgfmclcoaaGreatDoor.Til
