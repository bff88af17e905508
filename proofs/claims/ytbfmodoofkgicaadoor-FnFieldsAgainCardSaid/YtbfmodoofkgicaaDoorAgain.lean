/- FnFieldsAgain: the fields of a line, joined by single spaces, have the same fields. -/
import Derived.Test.YtbfmodoofkgicaaDoorSpl
import Derived.Test.YtbfmodoofkgicaaDoorSame
import Derived.Test.YtbfmodoofkgicaaDoorFmtI
import Derived.Test.YtbfmodoofkgicaaDoorDrawF
namespace Go.Proofs.YtbfmodoofkgicaaDoor.Spl
set_option linter.unusedVariables false
open Go.RowKit Go.Proofs.YtbfmodoofkgicaaDoor.Base Go.Proofs.YtbfmodoofkgicaaDoor.Mark

/-- the fields, each with a space behind it. -/
def J (F : List (List UInt8)) : List UInt8 := F.flatMap fun f => f ++ [32]
theorem J_snoc (F : List (List UInt8)) (f : List UInt8) : J (F ++ [f]) = J F ++ f ++ [32] := by unfold J; simp
def P1 (c : UInt8) : Prop := Ok1 c ∧ c.toNat ≠ 32
theorem sp_no (c : UInt8) (h : P1 c) : Lib.isSp c = false := by rw [sp_iff c h.1, decide_eq_false h.2]
theorem fieldsGo_ok : ∀ (l cur : List UInt8), (∀ c ∈ cur, P1 c) → AllOk l → ∀ f ∈ Lib.fieldsGo cur l, f ≠ [] ∧ ∀ c ∈ f, P1 c
  | [], cur, hc, _, f, hf => by
    simp only [Lib.fieldsGo] at hf
    cases cur with
    | nil => simp at hf
    | cons a r =>
      simp only [List.isEmpty_cons, Bool.false_eq_true, if_false, List.mem_singleton] at hf
      rw [hf]; exact ⟨by simp, hc⟩
  | b :: l, cur, hc, hl, f, hf => by
    have hb : Ok1 b := hl b (by simp)
    have hl2 : AllOk l := fun c h => hl c (by simp [h])
    simp only [Lib.fieldsGo] at hf
    by_cases h32 : b.toNat = 32
    · rw [sp_iff b hb, decide_eq_true h32] at hf
      simp only [if_true] at hf
      cases cur with
      | nil =>
        simp only [List.isEmpty_nil, if_true] at hf
        exact fieldsGo_ok l [] (by intro c h; simp at h) hl2 f hf
      | cons a r =>
        simp only [List.isEmpty_cons, Bool.false_eq_true, if_false, List.mem_cons] at hf
        rcases hf with hf | hf
        · rw [hf]; exact ⟨by simp, hc⟩
        · exact fieldsGo_ok l [] (by intro c h; simp at h) hl2 f hf
    · rw [sp_iff b hb, decide_eq_false h32] at hf
      simp only [Bool.false_eq_true, if_false] at hf
      refine fieldsGo_ok l (cur ++ [b]) (fun c h => ?_) hl2 f hf
      rw [List.mem_append] at h
      rcases h with h | h
      · exact hc c h
      · simp only [List.mem_singleton] at h; rw [h]; exact ⟨hb, h32⟩
theorem go_field : ∀ (f cur rest : List UInt8), (∀ c ∈ f, P1 c) → cur ++ f ≠ [] → Lib.fieldsGo cur (f ++ 32 :: rest) = (cur ++ f) :: Lib.fieldsGo [] rest
  | [], cur, rest, _, hne => by
    simp only [List.nil_append, List.append_nil, Lib.fieldsGo] at hne ⊢
    rw [show Lib.isSp 32 = true from by decide]
    cases cur with
    | nil => exact absurd rfl hne
    | cons a r => simp
  | c :: f, cur, rest, hf, hne => by
    simp only [List.cons_append, Lib.fieldsGo]
    rw [sp_no c (hf c (by simp))]
    simp only [Bool.false_eq_true, if_false]
    rw [go_field f (cur ++ [c]) rest (fun x h => hf x (by simp [h])) (by simp)]
    simp
theorem fields_J : ∀ F : List (List UInt8), (∀ f ∈ F, f ≠ [] ∧ ∀ c ∈ f, P1 c) → Lib.fields (J F) = F
  | [], _ => rfl
  | f :: F, h => by
    have ih := fields_J F (fun g hg => h g (by simp [hg]))
    unfold Lib.fields J at ih ⊢
    rw [List.flatMap_cons, List.append_assoc]
    have h1 := h f (by simp)
    rw [show [32] ++ List.flatMap (fun f => f ++ [32]) F = 32 :: List.flatMap (fun f => f ++ [32]) F from rfl, go_field f [] _ h1.2 (by simpa using h1.1), ih]
    rfl
theorem ok_J (F : List (List UInt8)) (h : ∀ f ∈ F, f ≠ [] ∧ ∀ c ∈ f, P1 c) : AllOk (J F) := by
  intro c hc
  unfold J at hc
  rw [List.mem_flatMap] at hc
  obtain ⟨f, hf, hc⟩ := hc
  rw [List.mem_append] at hc
  rcases hc with hc | hc
  · exact ((h f hf).2 c hc).1
  · simp only [List.mem_singleton] at hc; rw [hc]; exact ⟨by decide, by decide⟩
theorem J_length (F : List (List UInt8)) (b : Nat) (h : ∀ f ∈ F, f.length ≤ b) : (J F).length ≤ F.length * (b + 1) := by
  induction F with
  | nil => simp [J]
  | cons f F ih =>
    have h1 := h f (by simp)
    have h2 := ih (fun g hg => h g (by simp [hg]))
    have e : (J (f :: F)).length = f.length + 1 + (J F).length := by unfold J; rw [List.flatMap_cons, List.length_append, List.length_append]; rfl
    rw [e, List.length_cons, Nat.add_mul]
    omega
theorem minus3 : Fmt.numS (-3) = ⟨#[45, 51]⟩ := by
  unfold Fmt.numS Lib.itoa
  rw [if_pos (by decide), show (-3 : Int).natAbs = 3 from rfl, Lib.decDigits_one (by decide)]
  rfl

set_option maxRecDepth 100000 in
set_option maxHeartbeats 1000000 in
theorem again_law (A : Option Addr) (len cap : Nat) (zs : List Int) (w : World) (h0 : Draw.IsRow .u8 w A len cap zs) (hp : Sp w ∧ Fmt.Pow w) :
    Calls Tryd.prog 5 #[.slice A len cap] w fun e w' => e = .returned (.bool true) ∧ Below w.heap.size w w' := by
  have hlen := Draw.row_len h0
  obtain ⟨hsp, hpow⟩ := hp
  by_cases hbig : (1048576 : Int) < (len : Int)
  · go_enter Tryd.func5, Tryd.ntmps5
    go_wp2_with fail
    refine (Draw.big w A len cap hlen).mono ?_
    rintro e w' ⟨rfl, rfl⟩
    go_wp2
    go_ret
    exact ⟨rfl, Below.refl _ _⟩
  · have HC := Lib.hid (Draw.coded_of_row h0 (by omega))
    have HF := Lib.hid (fun (w1 : World) (hb : Below w.heap.size w w1) => Fmt.impl_fmt (-3) (by omega) (by omega) w1 (Joins.tab_stays Fmt.gPow hpow hb (Nat.le_refl _)))
    have HT := Lib.hid hsp
    clear h0 hsp hpow
    go_enter Tryd.func5, Tryd.ntmps5
    go_wp2_with fail
    refine (Draw.big w A len cap hlen).mono ?_
    rintro e w' ⟨rfl, rfl⟩
    go_wp2_with fail
    refine (Draw.drawLine w A len cap HC.out).mono ?_
    rintro e w1 ⟨s, hs, rfl, hb1⟩
    have HT1 := Lib.hid (sp_stay HT.out hb1)
    go_wp2_with fail
    refine (impl_spl s w1 (by omega) HT1.out).mono ?_
    rintro e w2 hr
    obtain ⟨F, ok, A1, cap1, hsame, hF24, rfl, hown, hb2⟩ := ans_of hr
    clear hr
    have HSame := Lib.hid hsame
    have HO2 := Lib.hid hown
    have hbb2 := hb1.trans (hb2.mono hb1.size)
    have HT2 := Lib.hid (sp_stay HT.out hbb2)
    clear hsame hown hb1 hb2
    go_wp2_with fail
    refine (spec_spl s w2 (by omega)).mono ?_
    rintro e w3 hr
    obtain ⟨G, ok', A2, cap2, hsame, _, rfl, _, hb3⟩ := ans_of hr
    clear hr
    obtain ⟨rfl, rfl⟩ := same_ans HSame.out hsame
    have HO3 := Lib.hid (own_below HO2.out hb3)
    have hbb3 := hbb2.trans (hb3.mono hbb2.size)
    have HT3 := Lib.hid (sp_stay HT.out hbb3)
    clear hsame hb3 hbb2
    rcases HSame.out with ⟨hg, hFe, rfl⟩ | ⟨hg, rfl, rfl⟩
    · have HG := Lib.hid hg
      have HFe := Lib.hid hFe
      clear hg hFe
      have hFP : ∀ f ∈ F, f ≠ [] ∧ ∀ c ∈ f, P1 c := by
        rw [HFe.out]; exact fieldsGo_ok _ [] (by intro c h; simp at h) HG.out.2.1
      have hFS : ∀ f ∈ F, f.length ≤ 600 := by
        rw [HFe.out]; intro f hf; exact Nat.le_trans (field_size s f hf) HG.out.1
      have HFP := Lib.hid hFP
      have HFS := Lib.hid hFS
      have HJ := Lib.hid (fields_J F hFP)
      have HOJ := Lib.hid (ok_J F hFP)
      have HR3 := Lib.hid (rowAt_own HO3.out)
      clear hFP hFS
      obtain ⟨b, off, hA, hcell⟩ := HR3.out
      have HA1 := Lib.hid hA
      have HC1 := Lib.hid hcell
      clear hA hcell
      go_wp2_with fail
      go_loop [8, 9] (fun v i => ∃ (k : Nat) (t : ByteArray), k ≤ F.length ∧ i = .int .i64 k ∧ v = .string t ∧ Hid (t.data.toList = J (F.take k))) (fun _ i => F.length - (intOf i).toNat)
      case atStart => exact ⟨0, ⟨#[]⟩, Nat.zero_le _, rfl, rfl, Lib.hid rfl⟩
      case round =>
        obtain ⟨k, t, hk, rfl, rfl, HTk⟩ := hrel
        have htl : t.size ≤ k * 601 := by
          have h1 := J_length (F.take k) 600 (fun f hf => HFS.out f (List.mem_of_mem_take hf))
          rw [← HTk.out, len_s, List.length_take] at h1
          have : min k F.length * 601 ≤ k * 601 := Nat.mul_le_mul_right _ (by omega)
          omega
        by_cases hlt : k < F.length
        · obtain ⟨rfl, _⟩ := HA1.out (by rw [rowOf_length]; omega)
          obtain ⟨u, hu⟩ : ∃ u : ByteArray, u = ⟨F[k].toArray⟩ := ⟨_, rfl⟩
          have hcell : w3.cell? ⟨b, off + k, none⟩ = some (.string u) := HC1.out k _ (by rw [hu]; unfold rowOf strV; simp [List.getElem?_eq_getElem hlt])
          have hus : u.size ≤ 600 := by
            have h1 := HFS.out F[k] (List.getElem_mem hlt)
            have h2 : u.size = F[k].length := by rw [hu]; simp [ByteArray.size]
            omega
          have h1 : t.size + u.size ≤ 9223372036854775807 := by omega
          have h2 : (t ++ u).size + (⟨#[32]⟩ : ByteArray).size ≤ 9223372036854775807 := by
            have h3 : (⟨#[32]⟩ : ByteArray).size = 1 := rfl
            have h4 := Draw.cat_size t u
            omega
          have HT2 := Lib.hid (show (t ++ u ++ ⟨#[32]⟩).data.toList = J (F.take (k + 1)) by
            rw [List.take_succ_eq_append_getElem hlt, J_snoc, ← HTk.out, ByteArray.data_append, ByteArray.data_append, Array.toList_append, Array.toList_append, hu])
          clear hu htl
          go_wp2
          go_round
          case rel => exact ⟨k + 1, t ++ u ++ ⟨#[32]⟩, by omega, by go_num, rfl, HT2⟩
          case measure => (simp [intOf] <;> omega)
        · obtain rfl : k = F.length := by omega
          have HTF := Lib.hid (show t.data.toList = J F by rw [HTk.out, List.take_of_length_le (Nat.le_refl _)])
          have ht2 : t.size ≤ 65536 := by omega
          clear HTk htl
          go_wp2_with fail
          refine (impl_spl t w3 (by omega) HT3.out).mono ?_
          rintro e w4 hr
          obtain ⟨G, ok2, A4, cap4, hsame, _, rfl, hown, hb4⟩ := ans_of hr
          clear hr
          have hbb4 := hbb3.trans (hb4.mono hbb3.size)
          by_cases h600 : (600 : Int) < (t.size : Int)
          · clear hsame hown hb4
            cases ok2
            all_goals
              go_wp2
              go_ret
              exact ⟨rfl, hbb4⟩
          · have hgood : Good t := ⟨by omega, by rw [HTF.out]; exact HOJ.out, by rw [HTF.out, HJ.out]; exact hF24⟩
            rcases hsame with ⟨_, hGe, rfl⟩ | ⟨hng, _⟩
            · have hGF : F = G := by rw [hGe, HTF.out, HJ.out]
              subst hGF
              have HR4 := Lib.hid (own_below HO3.out hb4)
              have HR5 := Lib.hid (rowAt_own hown)
              have HSR := Lib.hid (sameRows w4 A1 A4 F.length cap1 cap4 (F.map fun l => (⟨l.toArray⟩ : ByteArray)) (by rw [List.length_map]) (by omega) (by rw [← rowOf_strings]; exact rowAt_own HR4.out) (by rw [← rowOf_strings]; exact HR5.out))
              clear hown hGe hgood hb4
              go_wp2_with fail
              refine HSR.out.mono ?_
              rintro e w5 ⟨rfl, q, hq⟩
              have hb5 : Below w.heap.size w w5 := by rw [hq]; exact ⟨hbb4.os, hbb4.tape, hbb4.output, hbb4.size, hbb4.block⟩
              clear hq
              go_wp2
              go_ret
              exact ⟨rfl, hb5⟩
            · exact absurd hgood hng
    · go_wp2_with fail
      refine (HF.out w3 hbb3).mono ?_
      rintro e w4 ⟨rfl, hb4⟩
      rw [minus3]
      go_wp2
      go_ret
      exact ⟨rfl, hbb3.trans (hb4.mono hbb3.size)⟩
end Go.Proofs.YtbfmodoofkgicaaDoor.Spl
