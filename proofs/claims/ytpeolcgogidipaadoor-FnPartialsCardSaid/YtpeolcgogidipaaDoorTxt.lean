/- TilingText: the program's function and the model's write the same text of every list. -/
import Derived.Test.YtpeolcgogidipaaDoorTilM
import Derived.Test.YtpeolcgogidipaaDoorDomP
import Derived.Test.YtpeolcgogidipaaDoorShelf
import Derived.Lib.Join
namespace Go.Proofs.YtpeolcgogidipaaDoor.Til
set_option linter.unusedVariables false
set_option linter.unusedSimpArgs false
open Go.RowKit Go.Proofs.YtpeolcgogidipaaDoor.Base Go.Proofs.YtpeolcgogidipaaDoor.Pure Go.Proofs.YtpeolcgogidipaaDoor.Cell Go.Proofs.YtpeolcgogidipaaDoor.Dom Go.Proofs.YtpeolcgogidipaaDoor.Dms Go.Proofs.YtpeolcgogidipaaDoor.Fmt Go.Joins
open Go.Proofs.YtpeolcgogidipaaDoor.Reg hiding Yes add_none

/-- the text of a domino. -/
def tmD (d : Dm) : ByteArray := dtx d.1 d.2.1 d.2.2
theorem tmD_size (d : Dm) : (tmD d).size ≤ 4 := by
  unfold tmD
  cases h : domB d.1 d.2.1 d.2.2 with
  | true => rw [txt_size h]; exact Nat.le_refl _
  | false => unfold dtx; rw [h]; exact Nat.zero_le _
/-- the texts of the first k, with spaces between. -/
def accT (L : List Dm) : Nat → ByteArray
  | 0 => ⟨#[]⟩
  | k + 1 => (if k = 0 then accT L k else accT L k ++ ⟨#[32]⟩) ++ tmD (L.getD k (0, 0, false))
theorem accT_0 {L : List Dm} (h : 0 < L.length) : accT L 1 = ⟨#[]⟩ ++ tmD L[0] := by
  show (if (0 : Nat) = 0 then _ else _) ++ _ = _
  rw [if_pos rfl]
  simp [List.getD, List.getElem?_eq_getElem h, accT]
theorem accT_s {L : List Dm} {k : Nat} (hk : k < L.length) (h0 : 0 < k) : accT L (k + 1) = accT L k ++ ⟨#[32]⟩ ++ tmD L[k] := by
  show (if k = 0 then _ else _) ++ _ = _
  rw [if_neg (by omega)]
  simp [List.getD, List.getElem?_eq_getElem hk]
theorem accT_size (L : List Dm) : ∀ k, (accT L k).size ≤ 5 * k := by
  intro k
  induction k with
  | zero => exact Nat.le_refl _
  | succ k ih =>
    have h := tmD_size (L.getD k (0, 0, false))
    show ((if k = 0 then _ else _) ++ _ : ByteArray).size ≤ _
    split
    · rw [ByteArray.size_append]; omega
    · rw [ByteArray.size_append, ByteArray.size_append, show (⟨#[32]⟩ : ByteArray).size = 1 from rfl]; omega
/-- the text of a list. -/
def tilT (L : List Dm) : ByteArray := if L.all okM = true then accT L L.length else ⟨#[]⟩
theorem tilT_ok {L : List Dm} (h : ∀ (j : Nat) (d : Dm), L[j]? = some d → okM d = true) : tilT L = accT L L.length := by
  unfold tilT
  rw [if_pos]
  rw [List.all_eq_true]
  intro d hd
  obtain ⟨j, hj⟩ := List.getElem?_of_mem hd
  exact h j d hj
theorem tilT_bad {L : List Dm} {j : Nat} {d : Dm} (hj : L[j]? = some d) (h : okM d = false) : tilT L = ⟨#[]⟩ := by
  unfold tilT
  rw [if_neg]
  intro ha
  rw [List.all_eq_true] at ha
  have := ha d (List.mem_of_getElem? hj)
  rw [h] at this; cases this
/-- the first k are valid. -/
def Oks (L : List Dm) (k : Nat) : Prop := ∀ j d, j < k → L[j]? = some d → okM d = true
theorem Oks.zero (L : List Dm) : Oks L 0 := fun j d h => by omega
theorem Oks.succ {L : List Dm} {k : Nat} (h : Oks L k) {d : Dm} (hd : L[k]? = some d) (ho : okM d = true) : Oks L (k + 1) := by
  intro j e hj he
  by_cases q : j = k
  · subst q; rw [hd] at he; injection he with he; subst he; exact ho
  · exact h j e (by omega) he
theorem Oks.all {L : List Dm} (h : Oks L L.length) : tilT L = accT L L.length := tilT_ok fun j d hj => h j d (List.getElem?_eq_some_iff.1 hj).1 hj
theorem join_snoc (xs : List (List UInt8)) (y sep : List UInt8) (h : xs ≠ []) : Lib.join (xs ++ [y]) sep = Lib.join xs sep ++ sep ++ y := by
  cases xs with
  | nil => exact absurd rfl h
  | cons x r =>
    rw [List.cons_append, Lib.join_cons, Lib.join_cons]
    unfold Lib.joinTail
    simp
theorem join_acc (L : List Dm) : ∀ k, k ≤ L.length → (Lib.join (((L.take k).map tmD).map (·.data.toList)) [32]) = (accT L k).data.toList := by
  intro k
  induction k with
  | zero => intro _; simp [accT, Lib.join_nil]
  | succ k ih =>
    intro hk
    rw [List.take_succ_eq_append_getElem (by omega), List.map_append, List.map_append, List.map_singleton, List.map_singleton]
    by_cases h0 : k = 0
    · subst h0
      rw [accT_0 (by omega)]
      simp only [List.take_zero, List.map_nil, List.nil_append, Lib.join_one]
      simp
    · have hne : ((L.take k).map tmD).map (·.data.toList) ≠ [] := by
        intro e
        have e2 := congrArg List.length e
        simp only [List.length_map, List.length_take, List.length_nil] at e2
        omega
      rw [join_snoc _ _ _ hne, ih (by omega), accT_s (by omega) (by omega)]
      simp
theorem strInfo : (Tryd.prog.info? 9).map (fun i => (i.zero, i.size, i.bytes)) = some (some (.string ⟨#[]⟩), 1, 16) := by kernel_rfl
/-- the row of texts that is being filled. -/
def strS (L : List Dm) (n k : Nat) : List Value := (L.take k).map (fun d => Value.string (tmD d)) ++ List.replicate (n - k) (Value.string ⟨#[]⟩)
theorem strS_step (L : List Dm) (n k : Nat) (hx : L.length = n) (hk : k < n) : (strS L n k).set k (.string (tmD L[k])) = strS L n (k + 1) := by
  unfold strS
  have hl : ((L.take k).map (fun d => Value.string (tmD d))).length = k := by rw [List.length_map, List.length_take]; omega
  rw [List.set_append_right _ _ (by omega), hl, Nat.sub_self, show n - k = (n - (k + 1)) + 1 by omega, List.replicate_succ, List.set_cons_zero, List.take_succ_eq_append_getElem (by omega), List.map_append, List.append_assoc]
  rfl

set_option maxRecDepth 100000 in
set_option maxHeartbeats 2000000 in
theorem sTilingText (w : World) (A : Option Addr) (n cap B : Nat) (L : List Dm) (hL : L.length = n) (hn : (n : Int) ≤ 1048576) (h : RowM w B A L) (hB : B ≤ w.heap.size) :
    Calls Tryd.prog 16 #[.slice A n cap] w (Txt (tilT L) w) := by
  obtain ⟨b0, off, h1, h2⟩ := h.at
  have HA := Lib.hid (fun hp => h1 hp)
  have HC := Lib.hid h2
  have HL := Lib.hid hL
  have HB := Lib.hid hB
  clear h h1 h2 hL hB
  go_enter Tryd.func16, Tryd.ntmps16
  go_wp2_with fail
  go_loopw [3, 4] (fun s i wr => ∃ j : Nat, j ≤ n ∧ i = .int .i64 j ∧ s = .string (accT L j) ∧ Below w.heap.size w wr ∧ Hid (Oks L j)) (fun _ i _ => n - (intOf i).toNat)
  case atStart => exact ⟨0, Nat.zero_le _, rfl, rfl, Below.refl _ _, Lib.hid (Oks.zero _)⟩
  case round =>
    obtain ⟨j, hj, rfl, rfl, hb, hO⟩ := hrel
    have hbs := hb.size
    by_cases hlt : j < n
    · have hjL : j < L.length := by have := HL.out; omega
      obtain ⟨rfl, hbB⟩ := HA.out (by omega)
      have hbw : b0 < w.heap.size := by have := HB.out; omega
      have HCj := Lib.hid (fun (W : World) (hb : Below w.heap.size w W) => (show _ ∧ _ ∧ _ from ⟨(hb.cell (p := ⟨b0, off + j * 3, none⟩) hbw).trans (HC.out j hjL).1, (hb.cell (p := ⟨b0, off + j * 3 + 1, none⟩) hbw).trans (HC.out j hjL).2.1, (hb.cell (p := ⟨b0, off + j * 3 + 2, none⟩) hbw).trans (HC.out j hjL).2.2⟩))
      have HD := Lib.hid (List.getElem?_eq_getElem (l := L) hjL)
      have HS0 := Lib.hid (fun (h : j = 0) => (show accT L (j + 1) = accT L j ++ tmD L[j] by subst h; rw [accT_0 (by omega)]; rfl))
      have HS1 := Lib.hid (fun h => accT_s (L := L) hjL h)
      have hds := tmD_size L[j]
      have has := accT_size L j
      generalize L[j] = d at HCj HD HS0 HS1 hds
      obtain ⟨x, y, b⟩ := d
      simp only [tmD] at HCj HS0 HS1 hds
      have HO := Lib.hid (fun W => sDominoOk x y b W)
      have HT := Lib.hid (fun W => sDominoText x y b W)
      have HK := Lib.hid (show okM (x, y, b) = domB x y b from rfl)
      generalize domB x y b = p at HO HK
      generalize dtx x y b = t at HT HS0 HS1 hds
      generalize hac : accT L j = a at HS0 HS1 has
      clear hac
      obtain ⟨c0, c1, c2⟩ := HCj.out _ hb
      go_wp2_with fail
      refine (HO.out _).mono ?_
      rintro e w1 ⟨rfl, hb1⟩
      have hb1 := hb.trans (hb1.mono hbs)
      clear c0 c1 c2 hb HO
      cases p with
      | false =>
        have HE := Lib.hid (tilT_bad HD.out HK.out)
        go_wp2
        go_ret
        exact ⟨by rw [HE.out]; rfl, hb1⟩
      | true =>
        have HOk := Lib.hid (hO.out.succ HD.out HK.out)
        have hbs1 := hb1.size
        obtain ⟨c0, c1, c2⟩ := HCj.out _ hb1
        have hzc : (⟨#[32]⟩ : ByteArray).size = 1 := rfl
        have hsz : (a ++ (⟨#[32]⟩ : ByteArray)).size = a.size + 1 := by rw [ByteArray.size_append, hzc]
        have hab : a.size ≤ 6000000 := by omega
        clear has
        rcases Nat.eq_zero_or_pos j with hj0 | hj0
        · have HS := Lib.hid (HS0.out hj0)
          have hg1 : decide (0 < (j : Int)) = false := decide_eq_false (by omega)
          have hg2 : ¬ (0 < (j : Int)) := by omega
          have hg3 : (0 < j) = False := by simp; omega
          have HJ0 := Lib.hid hj0
          clear hj0 HS0 HS1 hO HK HD
          go_wp2_with fail
          refine (HT.out _).mono ?_
          rintro e w2 ⟨rfl, hb2⟩
          have hb2 := hb1.trans (hb2.mono hbs1)
          clear c0 c1 c2 hb1 HT
          go_wp2
          go_roundw
          case rel => exact ⟨j + 1, by omega, by go_num, by rw [HS.out], hb2, HOk⟩
          case measure => (simp [intOf] <;> omega)
        · have HS := Lib.hid (HS1.out hj0)
          have hg1 : decide (0 < (j : Int)) = true := decide_eq_true (by omega)
          have hg2 : 0 < (j : Int) := by omega
          clear HS0 HS1 hO HK HD
          go_wp2_with fail
          refine (HT.out _).mono ?_
          rintro e w2 ⟨rfl, hb2⟩
          have hb2 := hb1.trans (hb2.mono hbs1)
          clear c0 c1 c2 hb1 HT
          go_wp2
          go_roundw
          case rel => exact ⟨j + 1, by omega, by go_num, by rw [HS.out], hb2, HOk⟩
          case measure => (simp [intOf] <;> omega)
    · obtain rfl : j = n := by omega
      have HE := Lib.hid (show tilT L = accT L j by rw [← HL.out]; exact Oks.all (by rw [HL.out]; exact hO.out))
      go_wp2
      go_ret
      exact ⟨by rw [HE.out]; rfl, hb⟩

set_option maxRecDepth 100000 in
set_option maxHeartbeats 2000000 in
theorem iTilingText (w : World) (ht : Pow w) (A : Option Addr) (n cap B : Nat) (L : List Dm) (hL : L.length = n) (hn : (n : Int) ≤ 1048576) (hf : Fits L) (h : RowM w B A L) (hB : B ≤ w.heap.size) :
    Calls Tryd.prog 14 #[.slice A n cap] w (Txt (tilT L) w) := by
  obtain ⟨i0, hi, hz0, hz1, hz2⟩ := info_parts strInfo
  obtain ⟨b0, off, h1, h2⟩ := h.at
  have HA := Lib.hid (fun hp => h1 hp)
  have HC := Lib.hid h2
  have HL := Lib.hid hL
  have HF := Lib.hid hf
  have HB := Lib.hid hB
  have HPw := Lib.hid (fun W (hb : Below w.heap.size w W) => (show Pow W from Joins.tab_stays gPow ht hb (Nat.le_refl _)))
  clear h h1 h2 hL hf hB ht
  go_enter Tryd.func14, Tryd.ntmps14
  go_wp2_with (first
    | (at_make; refine wpList_make_full _ rfl _ _ 59 rfl w.heap.size 9 i0 (.string ⟨#[]⟩) 1 Tryd.underlying59 hi hz0 hz1 .i64 .i64 (n : Int) (n : Int) n rfl rfl rfl rfl (by rw [hz2]; omega) (by unfold maxLen; omega) (Nat.le_refl _) ?_; intro w1 hown1 hg1))
  have hb1 : Below w.heap.size w w1 := (Below.refl _ _).grown hg1 (by omega) (by simp)
  have HO := Lib.hid (show w1.ownsRow w.heap.size 9 1 (.slice (some ⟨w.heap.size, 0, none⟩) n n) n (strS L n 0) by
    rw [show (Value.string ⟨#[]⟩).cells = #[.string ⟨#[]⟩] from rfl, Nat.mul_one, toList_madeCells_one] at hown1
    simpa [strS] using hown1)
  clear hown1 hg1 hi hz0 hz1 hz2
  go_loopw [11] (fun i wr => ∃ j : Nat, j ≤ n ∧ i = .int .i64 j ∧ wr.ownsRow w.heap.size 9 1 (.slice (some ⟨w.heap.size, 0, none⟩) n n) n (strS L n j) ∧ Below w.heap.size w wr ∧ Hid (Oks L j)) (fun i _ => n - (intOf i).toNat)
  case atStart => exact ⟨0, Nat.zero_le _, rfl, HO.out, hb1, Lib.hid (Oks.zero _)⟩
  case round =>
    clear HO hb1
    obtain ⟨j, hj, rfl, hown, hb, hO⟩ := hrel
    have hbs := hb.size
    by_cases hlt : j < n
    · have hjL : j < L.length := by have := HL.out; omega
      obtain ⟨rfl, hbB⟩ := HA.out (by omega)
      have hbw : b0 < w.heap.size := by have := HB.out; omega
      obtain ⟨c0, c1, c2⟩ := HC.out j hjL
      have c0 := (hb.cell (p := ⟨b0, off + j * 3, none⟩) hbw).trans c0
      have c1 := (hb.cell (p := ⟨b0, off + j * 3 + 1, none⟩) hbw).trans c1
      have c2 := (hb.cell (p := ⟨b0, off + j * 3 + 2, none⟩) hbw).trans c2
      obtain ⟨f1, f2⟩ := HF.out L[j] (List.getElem_mem hjL)
      have HD := Lib.hid (List.getElem?_eq_getElem (l := L) hjL)
      have HST := Lib.hid (strS_step L n j HL.out hlt)
      generalize L[j] = d at c0 c1 c2 f1 f2 HD HST
      obtain ⟨x, y, b⟩ := d
      simp only [tmD] at c0 c1 c2 f1 f2 HST
      have HOk := Lib.hid (fun W => iDominoOk x y b f1 f2 W)
      have HT := Lib.hid (fun W hp => iDominoText x y b f1 f2 W hp)
      have HK := Lib.hid (show okM (x, y, b) = domB x y b from rfl)
      generalize domB x y b = p at HOk HK
      generalize dtx x y b = t at HT HST
      have HOwn := Lib.hid hown
      clear hown f1 f2
      go_wp2_with fail
      refine (HOk.out _).mono ?_
      rintro e w1 ⟨rfl, hb1⟩
      obtain ⟨hE, K1⟩ := bx3 x y b wr w1 hb1
      have hB1 := hb.trans (hE.mono hbs)
      have HOwn1 := Lib.hid (Reg.own_below HOwn.out hE (Nat.le_refl _))
      clear hb1 HOwn HOk hE c0 c1 c2 hb
      cases p with
      | false =>
        have HE := Lib.hid (tilT_bad HD.out HK.out)
        go_wp2
        go_ret
        exact ⟨by rw [HE.out]; rfl, hB1⟩
      | true =>
        have HOks := Lib.hid (hO.out.succ HD.out HK.out)
        have d0 := K1.c0
        have d1 := K1.c1
        have d2 := K1.c2
        clear K1 hO HK HD
        go_wp2_with fail
        refine (HT.out _ (HPw.out _ hB1)).mono ?_
        rintro e w2 ⟨rfl, hb2⟩
        have hown := Reg.own_below HOwn1.out hb2 (Nat.le_refl _)
        have hb3 := hB1.trans (hb2.mono hB1.size)
        have hu : ∃ u, w2.cell? ⟨w.heap.size, j, none⟩ = some u := by
          have hlen := hown.1
          rw [hown.cellAt j (by omega)]; exact ⟨_, List.getElem?_eq_getElem (by omega)⟩
        obtain ⟨u0, hu0⟩ := hu
        have hf0 := hown.frozenAt j
        obtain ⟨hst, _⟩ := hown.stored j (.string t)
        rw [HST.out] at hst
        have R := Lib.hid hst
        have HB3 := Lib.hid (hb3.setCell (p := ⟨w.heap.size, j, none⟩) (Nat.le_refl _) (.string t))
        clear hown hst hb3 hb2 hB1 d0 d1 d2 HT HOwn1 HST
        go_wp2
        go_roundw
        case rel => exact ⟨j + 1, by omega, by go_num, R.out, HB3.out, HOks⟩
        case measure => (simp [intOf] <;> omega)
    · obtain rfl : j = n := by omega
      have HE := Lib.hid (show tilT L = accT L j by rw [← HL.out]; exact Oks.all (by rw [HL.out]; exact hO.out))
      have hjl : (L.map tmD).length = j := by rw [List.length_map]; exact HL.out
      have hja := join_acc L j (by rw [HL.out]; exact Nat.le_refl _)
      rw [show L.take j = L by rw [← HL.out, List.take_length]] at hja
      have hsz := accT_size L j
      have HJ := Lib.hid (Tryd.strings_Join w.heap.size 0 j (L.map tmD) ⟨#[32]⟩ wr (fun k x hx => by
        have hk : k < j := by have := (List.getElem?_eq_some_iff.1 hx).1; omega
        rw [Nat.zero_add, hown.cellAt k (by omega)]
        unfold strS
        rw [List.getElem?_append_left (by rw [List.length_map, List.length_take, HL.out]; omega), List.getElem?_map, List.getElem?_take, if_pos hk]
        rw [List.getElem?_map] at hx
        cases hq : L[k]? with
        | none => rw [hq] at hx; cases hx
        | some q => rw [hq] at hx; injection hx with hx; subst hx; rfl) (hown.lt w.heap.size rfl).2 (by omega) (by omega) (by
        rw [show (⟨#[32]⟩ : ByteArray).data.toList = [32] from rfl, hja]
        have : (accT L j).data.toList.length = (accT L j).size := by rfl
        omega))
      rw [hjl, show (⟨#[32]⟩ : ByteArray).data.toList = [32] from rfl, hja] at HJ
      clear hown hja hjl hsz
      generalize accT L j = a at HJ HE
      go_wp2_with fail
      refine HJ.out.mono ?_
      rintro e w2 ⟨rfl, hb2⟩
      have hb3 := hb.trans (hb2.mono hbs)
      clear HJ hb2 hb
      go_wp2
      go_ret
      exact ⟨by rw [HE.out]; simp, hb3⟩
end Go.Proofs.YtpeolcgogidipaaDoor.Til
