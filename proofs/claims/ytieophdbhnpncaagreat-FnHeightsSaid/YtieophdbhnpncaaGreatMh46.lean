/- HtF in one text. -/
import Derived.Test.YtieophdbhnpncaaGreatMh31
import Derived.Test.YtieophdbhnpncaaGreatMh35
import Derived.Test.YtieophdbhnpncaaGreatMh43
import Derived.Test.YtieophdbhnpncaaGreatMh44
import Derived.Test.YtieophdbhnpncaaGreatMh45

namespace Go.Proofs.YtieophdbhnpncaaGreat.Hgt
set_option linter.unusedVariables false
set_option linter.unusedSimpArgs false
set_option maxRecDepth 100000
open Go.RowKit Go.Proofs.YtieophdbhnpncaaGreat.Cell Go.Proofs.YtieophdbhnpncaaGreat.Dms Go.Proofs.YtieophdbhnpncaaGreat.Til Go.Proofs.YtieophdbhnpncaaGreat.Flp Go.Joins
open Go.Proofs.YtieophdbhnpncaaGreat.Draw (IsRow big coded_of_row atK btoi)
open Go.Proofs.YtieophdbhnpncaaGreat.Cels (RowC rowC_own)
open Go.Proofs.YtieophdbhnpncaaGreat.Reg (ints RowB rowB_own)
open Go.Proofs.YtieophdbhnpncaaGreat.Tile (SimTwo SimPost sim_ok drawHts)
open Go.Proofs.YtieophdbhnpncaaGreat.Cor (TfP iTilingFrom iHeightsOf iEdge)
open Go.Proofs.YtieophdbhnpncaaGreat.Sam (sameD sSame)
open Go.Proofs.YtieophdbhnpncaaGreat.Flo (simB)

structure HF (w : World) (pr : Nat) (va : Value) (Ar : Option Addr) (xs : List Int) (Al : Option Addr) (L : List Dm) (W : World) : Prop where
 bel : Below w.heap.size w W
 box : Rg W pr va
 row : RowB W W.heap.size Ar xs
 lst : RowM W W.heap.size Al L
structure HG (w : World) (pr : Nat) (va : Value) (Ar : Option Addr) (xs : List Int) (Al : Option Addr) (L : List Dm) (Ah : Option Addr) (hs : List Int) (W : World) : Prop where
 hf : HF w pr va Ar xs Al L W
 hgt : RowB W W.heap.size Ah hs
structure HK (w : World) (pr : Nat) (va : Value) (Ar : Option Addr) (xs : List Int) (Al : Option Addr) (L : List Dm) (Ah : Option Addr) (hs : List Int) (Ac : Option Addr) (S : List (Int × Int)) (W : World) : Prop where
 hg : HG w pr va Ar xs Al L Ah hs W
 cel : RowC W Ac S
section
variable {w W W' : World} {pr : Nat} {va : Value} {Ar : Option Addr} {xs : List Int} {Al : Option Addr} {L : List Dm} {Ah : Option Addr} {hs : List Int} {Ac : Option Addr} {S : List (Int × Int)}
theorem rowI_on {A : Option Addr} {M : List Int} (h : RowB W W.heap.size A M) (hb : Below W.heap.size W W') : RowB W' W'.heap.size A M := (h.below hb (Nat.le_refl _)).mono hb.size
theorem rowL_on {A : Option Addr} {M : List Dm} (h : RowM W W.heap.size A M) (hb : Below W.heap.size W W') : RowM W' W'.heap.size A M := (h.below hb (Nat.le_refl _)).mono hb.size
theorem rowC_on {A : Option Addr} {M : List (Int × Int)} (h : RowC W A M) (hb : Below W.heap.size W W') : RowC W' A M := by
 obtain ⟨b, off, h1, h2⟩ := h
 exact ⟨b, off, fun hl => ⟨(h1 hl).1, Nat.lt_of_lt_of_le (h1 hl).2 hb.size⟩, fun j p hp => by
  have hl : 0 < M.length := by have := (List.getElem?_eq_some_iff.1 hp).1; omega
  exact ⟨(hb.cell (p := ⟨b, off + j * 2, none⟩) (h1 hl).2).trans (h2 j p hp).1, (hb.cell (p := ⟨b, off + j * 2 + 1, none⟩) (h1 hl).2).trans (h2 j p hp).2⟩⟩
theorem HF.on (k : HF w pr va Ar xs Al L W) (hb : Below W.heap.size W W') : HF w pr va Ar xs Al L W' :=
 ⟨k.bel.trans (hb.mono k.bel.size), k.box.on hb, rowI_on k.row hb, rowL_on k.lst hb⟩
theorem HG.on (k : HG w pr va Ar xs Al L Ah hs W) (hb : Below W.heap.size W W') : HG w pr va Ar xs Al L Ah hs W' := ⟨k.hf.on hb, rowI_on k.hgt hb⟩
theorem HK.on (k : HK w pr va Ar xs Al L Ah hs Ac S W) (hb : Below W.heap.size W W') : HK w pr va Ar xs Al L Ah hs Ac S W' := ⟨k.hg.on hb, rowC_on k.cel hb⟩
end
theorem own_cap {w : World} {base e size n cap : Nat} {A : Option Addr} {xs : List Value} (h : w.ownsRow base e size (.slice A n cap) n xs) : n ≤ cap := by
 rcases h.2 with ⟨h1, h2⟩ | ⟨g, c, cur, h1, _, _, h4, _⟩
 ·injection h1; omega
 ·injection h1 with _ _ h1; omega
def FlH (M : List Dm) (n : Nat) (w : World) (e : Ending) (w' : World) : Prop := ∃ A cap, e = .returned (.tuple #[.slice A n cap, .bool true]) ∧ n ≤ cap ∧ RowM w' w'.heap.size A M ∧ Below w.heap.size w w'
theorem flh_of {M : List Dm} {n : Nat} {w : World} {e : Ending} {w' : World} (hn : M.length = n) (h : FlPost M true w e w') : FlH M n w e w' := by
 subst hn
 obtain ⟨A, cap, h1, h2, h3, h4⟩ := h
 exact ⟨A, cap, h1, h2, rowM_own h3, h4⟩
def HgN (hs : List Int) (w : World) (e : Ending) (w' : World) : Prop := ∃ (A : Option Addr) (c : Nat), e = .returned (.slice A 81 c) ∧ RowB w' w'.heap.size A hs ∧ Below w.heap.size w w'
def chg (k i : Nat) : Int := if k < i then 1 else 0
theorem chg_step {k i : Nat} {a b : Int} (h : a ≠ b ↔ i = k) : ∃ (v : Bool) (r c : Int), (a != b) = v ∧ (if v then (1 : Int) else 0) = r ∧ IntKind.i64.wrap (chg k i + r) = c ∧ wrap64 (chg k i + r) = c ∧ c = chg k (i + 1) := by
 refine ⟨_, _, _, rfl, rfl, rfl, ?_, ?_⟩
 ·rw [IntKind.wrap_i64]; unfold wrap64; omega
 ·rw [IntKind.wrap_i64]
  by_cases q : i = k
  ·have this : (a != b) = true := by simpa using h.2 q
   have a1 : chg k i = 0 := show (if k < i then (1 : Int) else 0) = 0 from if_neg (by omega)
   have a2 : chg k (i + 1) = 1 := show (if k < i + 1 then (1 : Int) else 0) = 1 from if_pos (by omega)
   rw [this, a1, a2]; rfl
  ·have this : (a != b) = false := by
    have := mt h.1 q
    simpa using this
   by_cases q2 : k < i
   ·have a1 : chg k i = 1 := show (if k < i then (1 : Int) else 0) = 1 from if_pos (by omega)
    have a2 : chg k (i + 1) = 1 := show (if k < i + 1 then (1 : Int) else 0) = 1 from if_pos (by omega)
    rw [this, a1, a2]; rfl
   ·have a1 : chg k i = 0 := show (if k < i then (1 : Int) else 0) = 0 from if_neg (by omega)
    have a2 : chg k (i + 1) = 0 := show (if k < i + 1 then (1 : Int) else 0) = 0 from if_neg (by omega)
    rw [this, a1, a2]; rfl
theorem flip_hgt {xs : List Int} {L X : List Dm} {hs : List Int} {S : List (Int × Int)} (hS : flipsR L = S) (r : Row9 xs L hs) (hsim : simB xs = true) {c : Int × Int} (hc : c ∈ S) :
  canB L c.1 c.2 = true ∧ Fits (flipL L c.1 c.2) ∧ (flipL L c.1 c.2).length ≤ 32 ∧ ∀ gs, hgtR xs (flipL L c.1 c.2) gs → gs.length = 81 ∧ OneOff hs gs := by
 subst hS
 have hcan := flips_can hc
 have ht := (flips_all r.til hcan).1
 refine ⟨hcan, Grd.fits_ok (Grd.part_valid (til_part ht)), by have := part_length (til_part ht); omega, fun gs hg => ?_⟩
 ·have r' := hgt_row hg hsim ht
  exact ⟨r'.len, one_off r hcan r'⟩

set_option maxHeartbeats 8000000 in
theorem heights_law (A : Option Addr) (len cap : Nat) (zs : List Int) (w : World) (h0 : IsRow .u8 w A len cap zs) :
  Calls Tryz.prog 3 #[.slice A len cap] w fun e w' => e = .returned (.bool true) ∧ Below w.heap.size w w' := by
 have hlen := Draw.row_len h0
 by_cases hbig : (1048576 : Int) < (len : Int)
 ·go_enter Tryz.func3, Tryz.ntmps3
  go_wp2_with fail
  refine (big w A len cap hlen).mono ?_
  rintro e w' ⟨rfl, rfl⟩
  go_wp2
  go_ret
  exact ⟨rfl, Below.refl _ _⟩
 ·have HC := Lib.hid (coded_of_row h0 (by omega))
  have HAt := Lib.hid (fun W (hb : Below w.heap.size w W) k (hk : k < 64) => atK W A len cap w.heap.size HC.out.1 (HC.out.2.below hb) k hk)
  have HBg := Lib.hid hbig
  clear h0
  go_enter Tryz.func3, Tryz.ntmps3
  go_wp2_with fail
  refine (big w A len cap hlen).mono ?_
  rintro e w' ⟨rfl, rfl⟩
  go_wp2_with fail
  clear hbig hlen
  refine (drawHts w A len cap HC.out).mono ?_
  rintro e w1 ⟨xs, Ar, n, cr, l, L, Lb, Al, cl, Ab, cb, HO, rfl, hown, hownL, _, hb1⟩
  have hB1 := hb1.alloc hb1.size (.cells #[.slice Ar n cr] 26)
  have hb2 := below_alloc1 w1 (.cells #[.slice Ar n cr] 26)
  have R1 := Rg.new w1 (.slice Ar n cr)
  have Q1 := rowI_on (rowB_own hown) hb2
  have K1 := rowL_on (rowM_own hownL) hb2
  have hlc := own_cap hownL
  have hl32 := HO.out.h32
  have HT := Lib.hid (simt_til HO.out)
  have HX := Lib.hid HO.out.len
  have HSm := Lib.hid HO.out.sim
  have HL := Lib.hid HO.out.la
  have hn8 : n ≤ 8 := by have := (sim_ok HO.out.sim).1; have := HX.out; omega
  have HFt := Lib.hid (show Fits L from Grd.fits_ok (Grd.part_valid (til_part HT.out)))
  clear hown hb1 HC hownL hb2 HO
  go_upto_region 4 with fail
  generalize w1.alloc (.cells #[.slice Ar n cr] 26) = W1 at hB1 R1 Q1 K1 ⊢
  generalize w1.heap.size = pr at R1 ⊢
  have F1 := Lib.hid (⟨hB1, R1, Q1, K1⟩ : HF w pr (.slice Ar n cr) Ar xs Al L W1)
  clear hB1 R1 Q1 K1
  have hnI : (n : Int) ≤ 9223372036854775807 := by omega
  have hlI : (l : Int) ≤ 9223372036854775807 := by omega
  have hlS : (l : Int) ≤ 1048576 := by omega
  have HHg := Lib.hid (fun W (q : RowB W W.heap.size Ar xs) A1 m c1 M (hm : M.length = m) (hm2 : m ≤ 1000000) (hf : Fits M) (r : RowM W W.heap.size A1 M) (hc : m ≤ c1) => iHeightsOf W Ar n cr W.heap.size xs HX.out hnI q (Nat.le_refl _) A1 m c1 W.heap.size M hm (by omega) hf r (Nat.le_refl _) hc)
  have HTf := Lib.hid (fun W (q : RowB W W.heap.size Ar xs) A1 c1 hs (hm : hs.length = 81) (r : RowB W W.heap.size A1 hs) => iTilingFrom W Ar n cr W.heap.size xs HX.out hnI q (Nat.le_refl _) A1 81 c1 W.heap.size hs hm (by omega) r (Nat.le_refl _) iSortD)
  have HSl := Lib.hid (fun W (q : RowM W W.heap.size Al L) A' c' (q2 : RowM W W.heap.size A' L) => show Calls _ _ _ W (Bol true W) from (show sameD L L = true by unfold sameD; simp) ▸ sSame W A' Al l l c' cl W.heap.size W.heap.size L L HL.out HL.out hlI hlI q2 q (Nat.le_refl _) (Nat.le_refl _))
  have HSf := Lib.hid (fun W (q : RowM W W.heap.size Al L) => sFlipsOf W Al l cl W.heap.size L HL.out hlI q (Nat.le_refl _))
  have HFa := Lib.hid (fun W (q : RowM W W.heap.size Al L) x y (hc : canB L x y = true) => show Calls _ _ _ W (FlH (flipL L x y) (flipL L x y).length W) from (hc ▸ sFlipAt W Al l cl W.heap.size L HL.out hlS q (Nat.le_refl _) x y).mono fun e w' h => flh_of rfl h)
  have HSu := Lib.hid (fun W A1 c1 hs (hm : hs.length = 81) (r : RowB W W.heap.size A1 hs) => iSum W A1 81 c1 W.heap.size hs hm (by omega) r (Nat.le_refl _))
  unfold Cels.NbPost at HSf
  have c2 := F1.out.box.c0
  go_wp2_with fail
  refine (HHg.out _ F1.out.row _ _ _ L HL.out (by omega) HFt.out F1.out.lst hlc).mono ?_
  rintro e w2 ⟨hs, Ah, nh, ch, hr, hnh, rfl, hown, hb2⟩
  have R9 := Lib.hid (hgt_row hr HSm.out HT.out)
  have h81 := R9.out.len
  obtain rfl : nh = 81 := by omega
  have G2 := Lib.hid (⟨F1.out.on hb2, rowB_own hown⟩ : HG w pr (.slice Ar n cr) Ar xs Al L Ah hs w2)
  have H81 := Lib.hid h81
  clear hr hnh hown hb2 F1 c2 h81
  have c2 := G2.out.hf.box.c0
  go_wp2_with fail
  refine (HTf.out _ G2.out.hf.row _ _ hs H81.out G2.out.hgt).mono ?_
  rintro e w3 ⟨M, ok, At, nt, ct, htf, hnt, rfl, hown, _, hb3⟩
  obtain ⟨e1, e2⟩ := tfR_uniq (.inl ⟨rfl, HSm.out, R9.out⟩ : tfR xs hs L true) htf
  subst e1
  subst e2
  obtain rfl : nt = l := by have := HL.out; omega
  have G3 := Lib.hid (G2.out.on hb3)
  have K3 := Lib.hid (rowM_own hown)
  clear htf hnt hown hb3 G2 c2 HTf
  go_wp2_with fail
  refine (HSl.out _ G3.out.hf.lst _ _ K3.out).mono ?_
  rintro e w4 ⟨rfl, hb4⟩
  have G4 := Lib.hid (G3.out.on hb4)
  clear hb4 G3 K3 HSl
  have hSl : (flipsR L).length ≤ 64 := by have h2 := flipsTo_length L 64; rwa [flipsTo_all] at h2
  obtain ⟨S, hS⟩ : ∃ S, flipsR L = S := ⟨_, rfl⟩
  have HFh := Lib.hid (fun c (hc : c ∈ S) => flip_hgt (X := []) hS R9.out HSm.out hc)
  rw [hS] at HSf hSl
  obtain ⟨s, hs'⟩ : ∃ s, S.length = s := ⟨_, rfl⟩
  rw [hs'] at HSf hSl
  have HS := Lib.hid hs'
  clear hS hs'
  go_wp2_with fail
  refine (HSf.out _ G4.out.hf.lst).mono ?_
  rintro e w5 ⟨Ac, cc, rfl, hown, hb5⟩
  have K5 := Lib.hid (⟨G4.out.on hb5, rowC_own hown⟩ : HK w pr (.slice Ar n cr) Ar xs Al L Ah hs Ac S w5)
  clear hown hb5 G4 HSf
  go_wp2_with fail
  go_loopw [10] (fun kv wr => ∃ k : Nat, k ≤ s ∧ kv = .int .i64 (k : Int) ∧ Hid (HK w pr (.slice Ar n cr) Ar xs Al L Ah hs Ac S wr)) (fun kv _ => s - (intOf kv).toNat)
  case atStart => exact ⟨0, by omega, rfl, K5⟩
  case round =>
   clear K5
   obtain ⟨k, hk, rfl, K6⟩ := hrel
   by_cases hlt : k < s
   ·have hkS : k < S.length := by rw [HS.out]; exact hlt
    have hkI : (k : Int) < (s : Int) := by omega
    obtain ⟨bf, of, hA, hR⟩ := K6.out.cel
    obtain ⟨rfl, hbf⟩ := hA (by omega)
    obtain ⟨c0, c1⟩ := hR k S[k] (List.getElem?_eq_getElem hkS)
    obtain ⟨q1, q2, q3, q4⟩ := HFh.out S[k] (List.getElem_mem hkS)
    generalize S[k] = c at c0 c1 q1 q2 q3 q4
    obtain ⟨x, y⟩ := c
    simp only at c0 c1 q1 q2 q3 q4
    have HF1 := Lib.hid (fun W (q : RowM W W.heap.size Al L) => HFa.out W q x y q1)
    have HQ2 := Lib.hid q2
    have HQ4 := Lib.hid q4
    generalize flipL L x y = X at HF1 HQ2 q3 HQ4
    obtain ⟨lx, hlx⟩ : ∃ lx, X.length = lx := ⟨_, rfl⟩
    have HLx := Lib.hid hlx
    rw [hlx] at HF1 q3
    clear hA hR q1 q2 q4 hlx hkS hbf
    go_wp2_with fail
    refine (HF1.out _ K6.out.hg.hf.lst).mono ?_
    rintro e w7 ⟨Ax, cx, rfl, hxc, kx, hb7⟩
    have K7 := Lib.hid (K6.out.on hb7)
    have KX := Lib.hid kx
    clear kx hb7 K6 HF1 c0 c1
    have c2 := K7.out.hg.hf.box.c0
    go_wp2_with fail
    refine (HHg.out _ K7.out.hg.hf.row _ _ _ X HLx.out (by omega) HQ2.out KX.out hxc).mono ?_
    rintro e w8 ⟨gs, Ag, ng, cg, hr, hng, rfl, hown, hb8⟩
    obtain ⟨hg81, hone⟩ := HQ4.out gs hr
    obtain rfl : ng = 81 := by omega
    have K8 := Lib.hid (K7.out.on hb8)
    have KG := Lib.hid (rowB_own hown)
    have HG81 := Lib.hid hg81
    clear hr hng hown hb8 K7 KX c2 hg81 HQ4 HQ2 HLx hxc q3
    obtain ⟨kk, s4, hkk, hs4, hsum, hbd, hpt⟩ := hone
    have HPt := Lib.hid hpt
    have h0 : chg kk 0 = 0 := by unfold chg; rw [if_neg (by omega)]
    have HE1 := Lib.hid (show chg kk 81 = 1 by unfold chg; rw [if_pos hkk])
    obtain ⟨bh, oh, hAh, hCh⟩ := K8.out.hg.hgt
    obtain ⟨rfl, hbh⟩ := hAh (by rw [H81.out]; omega)
    have HCh := Lib.hid hCh
    obtain ⟨bg, og, hAg, hCg⟩ := KG.out
    obtain ⟨rfl, hbg⟩ := hAg (by rw [HG81.out]; omega)
    have HCg := Lib.hid hCg
    obtain ⟨sh, hsh⟩ : ∃ sh, sumH hs 81 = sh := ⟨_, rfl⟩
    obtain ⟨sg, hsg⟩ : ∃ sg, sumH gs 81 = sg := ⟨_, rfl⟩
    have HSg := Lib.hid (fun W (r : RowB W W.heap.size (some ⟨bg, og, none⟩) gs) => show Calls _ _ _ W (Num sg W) from hsg ▸ HSu.out W (some ⟨bg, og, none⟩) cg gs HG81.out r)
    have HSh := Lib.hid (fun W (r : RowB W W.heap.size (some ⟨bh, oh, none⟩) hs) => show Calls _ _ _ W (Num sh W) from hsh ▸ HSu.out W (some ⟨bh, oh, none⟩) ch hs H81.out r)
    rw [hsh, hsg] at hsum
    rw [hsh] at hbd
    obtain ⟨d, hd, hdd⟩ : ∃ d : Int, IntKind.i64.wrap (sg - sh) = d ∧ IntKind.i64.wrap (d * d) = 16 := by
     refine ⟨s4, by rw [IntKind.wrap_i64]; omega, ?_⟩
     rcases hs4 with h | h <;> (rw [h]; rfl)
    clear hAh hCh hAg hCg hsh hsg hsum hbd hs4 hpt hkk
    go_upto_region 18 with fail
    go_loopw [14, 15] (fun cv iv wr => ∃ (i : Nat), i ≤ 81 ∧ cv = .int .i64 (chg kk i) ∧ iv = .int .i64 (i : Int) ∧ Below w8.heap.size w8 wr) (fun _ iv _ => 81 - (intOf iv).toNat)
    case atStart => exact ⟨0, by omega, by rw [h0], rfl, Below.refl _ _⟩
    case round =>
     obtain ⟨i, hi, rfl, rfl, hb⟩ := hrel
     by_cases hli : i < 81
     ·obtain ⟨a, b, ha, hb', hab⟩ := HPt.out i hli
      have d0 := (hb.cell (p := ⟨bh, oh + i, none⟩) hbh).trans (HCh.out i a ha)
      have d1 := (hb.cell (p := ⟨bg, og + i, none⟩) hbg).trans (HCg.out i b hb')
      obtain ⟨v, r, c, hv, hvr, hc1, hc2, hc3⟩ := chg_step hab
      have HBt := Lib.hid (fun W => btoi v W)
      rw [hvr] at HBt
      have hiI : (i : Int) < 81 := by omega
      have HB := Lib.hid hb
      have HC3 := Lib.hid hc3
      generalize chg kk i = ci at hc1 hc2 ⊢
      clear ha hb' hab hvr hb hc3
      go_upto_region 20 with fail
      refine wp_region_noPanic ?_
      refine wp_region_held_drew (S := (fun w' => w'.cell? ⟨bh, oh + i, none⟩ = some (.int .i64 a) ∧ w'.cell? ⟨bg, og + i, none⟩ = some (.int .i64 b))) (by kernel_rfl) ⟨d0, d1⟩ (fun hHeld => ?_)
      refine wpAnyH_take (i := 0) (v := ?_) rfl (by kernel_rfl) (by kernel_rfl) (by kernel_rfl) (fun _ _ _ h => h) (Or.inl ⟨by rfl, ?_⟩) (by assumption) ?_
      rotate_left
      ·(intro w' hS; (try dsimp only at hS); go_simp; try with_reducible rfl)
      try simp only [Act.put, List.getElem_toArray, List.getElem_cons_succ, List.getElem_cons_zero, List.setIfInBounds_toArray, List.set_cons_zero, List.set_cons_succ]
      refine wpAnyH_take (i := 1) (v := ?_) rfl (by kernel_rfl) (by kernel_rfl) (by kernel_rfl) (fun _ _ _ h => h) (Or.inl ⟨by rfl, ?_⟩) (by assumption) ?_
      rotate_left
      ·(intro w' hS; (try dsimp only at hS); go_simp; try with_reducible rfl)
      try simp only [Act.put, List.getElem_toArray, List.getElem_cons_succ, List.getElem_cons_zero, List.setIfInBounds_toArray, List.set_cons_zero, List.set_cons_succ]
      refine wpAnyH_take (i := 2) (v := ?_) rfl (by kernel_rfl) (by kernel_rfl) (by kernel_rfl) (fun _ _ _ h => h) (Or.inl ⟨by rfl, ?_⟩) (by assumption) ?_
      rotate_left
      ·(intro w' hS; (try dsimp only at hS); go_simp; try with_reducible rfl)
      try simp only [Act.put, List.getElem_toArray, List.getElem_cons_succ, List.getElem_cons_zero, List.setIfInBounds_toArray, List.set_cons_zero, List.set_cons_succ]
      refine wpAnyH_take (i := 3) (v := ?_) rfl (by kernel_rfl) (by kernel_rfl) (by kernel_rfl) (fun _ _ _ h => h) (Or.inl ⟨by rfl, ?_⟩) (by assumption) ?_
      rotate_left
      ·(intro w' hS; (try dsimp only at hS); go_simp; try with_reducible rfl)
      try simp only [Act.put, List.getElem_toArray, List.getElem_cons_succ, List.getElem_cons_zero, List.setIfInBounds_toArray, List.set_cons_zero, List.set_cons_succ]
      refine wpAnyH_take (i := 4) (v := ?_) rfl (by kernel_rfl) (by kernel_rfl) (by kernel_rfl) (fun _ _ _ h => h) (Or.inl ⟨by rfl, ?_⟩) (by assumption) ?_
      rotate_left
      ·(intro w' hS; (try dsimp only at hS); go_simp; try with_reducible rfl)
      try simp only [Act.put, List.getElem_toArray, List.getElem_cons_succ, List.getElem_cons_zero, List.setIfInBounds_toArray, List.set_cons_zero, List.set_cons_succ]
      refine wpAnyH_take (i := 5) (v := ?_) rfl (by kernel_rfl) (by kernel_rfl) (by kernel_rfl) (fun _ _ _ h => h) (Or.inl ⟨by rfl, ?_⟩) (by assumption) ?_
      rotate_left
      ·(intro w' hS; (try dsimp only at hS); go_simp; try with_reducible rfl)
      try simp only [Act.put, List.getElem_toArray, List.getElem_cons_succ, List.getElem_cons_zero, List.setIfInBounds_toArray, List.set_cons_zero, List.set_cons_succ]
      refine wpAnyH_take (i := 6) (v := ?_) rfl (by kernel_rfl) (by kernel_rfl) (by kernel_rfl) (fun _ _ _ h => h) (Or.inl ⟨by rfl, ?_⟩) (by assumption) ?_
      rotate_left
      ·(intro w' hS; (try dsimp only at hS); go_simp; try with_reducible rfl)
      try simp only [Act.put, List.getElem_toArray, List.getElem_cons_succ, List.getElem_cons_zero, List.setIfInBounds_toArray, List.set_cons_zero, List.set_cons_succ]
      refine wpAnyH_take (i := 7) (v := ?_) rfl (by kernel_rfl) (by kernel_rfl) (by kernel_rfl) (fun _ _ _ h => h) (Or.inl ⟨by rfl, ?_⟩) (by assumption) ?_
      rotate_left
      ·(intro w' hS; (try dsimp only at hS); go_simp; try with_reducible rfl)
      try simp only [Act.put, List.getElem_toArray, List.getElem_cons_succ, List.getElem_cons_zero, List.setIfInBounds_toArray, List.set_cons_zero, List.set_cons_succ]
      refine wpAnyH_take (i := 8) (v := ?_) rfl (by kernel_rfl) (by kernel_rfl) (by kernel_rfl) (fun _ _ _ h => h) (Or.inl ⟨by rfl, ?_⟩) (by assumption) ?_
      rotate_left
      ·(intro w' hS; (try dsimp only at hS); go_simp; try with_reducible rfl)
      try simp only [Act.put, List.getElem_toArray, List.getElem_cons_succ, List.getElem_cons_zero, List.setIfInBounds_toArray, List.set_cons_zero, List.set_cons_succ]
      refine wpAnyH_take (i := 9) (v := ?_) rfl (by kernel_rfl) (by kernel_rfl) (by kernel_rfl) (fun _ _ _ h => h) (Or.inl ⟨by rfl, ?_⟩) (by assumption) ?_
      rotate_left
      ·(intro w' hS; (try dsimp only at hS); go_simp; try with_reducible rfl)
      try simp only [Act.put, List.getElem_toArray, List.getElem_cons_succ, List.getElem_cons_zero, List.setIfInBounds_toArray, List.set_cons_zero, List.set_cons_succ]
      refine wpAnyH_ready (rs := [10]) (by kernel_rfl) (by simp) ?_
      refine AllReadyH.cons rfl (fun K hK => ?_) AllReadyH.nil
      go_simp
      refine (HBt.out _).mono ?_
      rintro e wx ⟨rfl, rfl⟩
      dsimp only
      refine hK.out _ _ (⟨d0, d1⟩) (fun hHeld => ?_)
      clear hK K
      try simp only [Act.put, List.getElem_toArray, List.getElem_cons_succ, List.getElem_cons_zero, List.setIfInBounds_toArray, List.set_cons_zero, List.set_cons_succ]
      refine wpAnyH_take (i := 11) (v := ?_) rfl (by kernel_rfl) (by kernel_rfl) (by kernel_rfl) (fun _ _ _ h => h) (Or.inl ⟨by rfl, ?_⟩) (by assumption) ?_
      rotate_left
      ·(intro w' hS; (try dsimp only at hS); go_simp; try with_reducible rfl)
      try simp only [Act.put, List.getElem_toArray, List.getElem_cons_succ, List.getElem_cons_zero, List.setIfInBounds_toArray, List.set_cons_zero, List.set_cons_succ]
      refine wpAnyH_take (i := 12) (v := ?_) rfl (by kernel_rfl) (by kernel_rfl) (by kernel_rfl) (fun _ _ _ h => h) (Or.inl ⟨by rfl, ?_⟩) (by assumption) ?_
      rotate_left
      ·(intro w' hS; (try dsimp only at hS); go_simp; try with_reducible rfl)
      try simp only [Act.put, List.getElem_toArray, List.getElem_cons_succ, List.getElem_cons_zero, List.setIfInBounds_toArray, List.set_cons_zero, List.set_cons_succ]
      refine wpAnyH_done (by kernel_rfl) ?_ _
      refine NoPanic.normal ?_
      clear hHeld
      have HB2 := Lib.hid HB.out.drew
      go_wp2
      go_roundw
      case rel => exact ⟨i + 1, by omega, by rw [← HC3.out], by go_num, HB2.out⟩
      case measure => (simp [intOf] <;> omega)
     ·obtain rfl : i = 81 := by omega
      have K9 := Lib.hid (K8.out.on hb)
      have KG9 := Lib.hid (rowI_on KG.out hb)
      rw [HE1.out]
      clear hb K8 KG HPt HCh HCg
      go_wp2_with fail
      refine (HSg.out _ KG9.out).mono ?_
      rintro e w10 ⟨rfl, hb10⟩
      have K10 := Lib.hid (K9.out.on hb10)
      clear hb10 K9 KG9 HSg
      go_wp2_with fail
      refine (HSh.out _ K10.out.hg.hgt).mono ?_
      rintro e w11 ⟨rfl, hb11⟩
      have K11 := Lib.hid (K10.out.on hb11)
      clear hb11 K10 HSh
      go_wp2
      go_roundw
      case rel => exact ⟨k + 1, by omega, by go_num, K11⟩
      case measure => (simp [intOf] <;> omega)
   ·obtain rfl : k = s := by omega
    have HB := Lib.hid K6.out.hg.hf.bel
    clear K6 HFh HFa HHg HSu
    go_wp2_with fail
    refine (HAt.out _ HB.out 0 (by omega)).mono ?_
    rintro e wx ⟨x0, ⟨hx0, hx1⟩, rfl, hw⟩
    have hw := hw.symm
    subst hw
    obtain ⟨x, hx⟩ : ∃ x : Int, x0 % 8 = x := ⟨_, rfl⟩
    have hx' : x0.tmod 8 = x := by rw [Int.tmod_eq_emod_of_nonneg hx0]; exact hx
    have hx7 : 0 ≤ x ∧ x ≤ 7 := by omega
    go_wp2_with fail
    refine (HAt.out _ HB.out 1 (by omega)).mono ?_
    rintro e wx ⟨y0, ⟨hy0, hy1⟩, rfl, hw⟩
    have hw := hw.symm
    subst hw
    obtain ⟨y, hy⟩ : ∃ y : Int, y0 % 9 = y := ⟨_, rfl⟩
    have hy' : y0.tmod 9 = y := by rw [Int.tmod_eq_emod_of_nonneg hy0]; exact hy
    have hy8 : 0 ≤ y ∧ y ≤ 8 := by omega
    obtain ⟨s1, s2, s3, s4⟩ := step_one hx7 hy8
    obtain ⟨X, hX⟩ : ∃ X : Int, x + 1 = X := ⟨_, rfl⟩
    have hX1 : IntKind.i64.wrap (x + 1) = X := by rw [IntKind.wrap_i64]; omega
    have hX2 : wrap64 (x + 1) = X := by unfold wrap64; omega
    rw [hX] at s1 s2 s3 s4
    obtain ⟨p, hp⟩ : ∃ p, stepE x y X y = p := ⟨_, rfl⟩
    obtain ⟨q, hq⟩ : ∃ q, stepE y x y X = q := ⟨_, rfl⟩
    have E1 := Lib.hid (fun W => show Calls _ _ _ W (Num p W) from hp ▸ iEdge x y X y W)
    have E2 := Lib.hid (fun W => show Calls _ _ _ W (Num (-p) W) from (show stepE X y x y = -p by rw [← hp]; exact s1) ▸ iEdge X y x y W)
    have E3 := Lib.hid (fun W => show Calls _ _ _ W (Num q W) from hq ▸ iEdge y x y X W)
    have E4 := Lib.hid (fun W => show Calls _ _ _ W (Num (-q) W) from (show stepE y X y x = -q by rw [← hq]; exact s2) ▸ iEdge y X y x W)
    rw [hp] at s3
    rw [hq] at s4
    obtain ⟨p', hp'⟩ : ∃ p', -p = p' := ⟨_, rfl⟩
    obtain ⟨q', hq'⟩ : ∃ q', -q = q' := ⟨_, rfl⟩
    rw [hp'] at E2
    rw [hq'] at E4
    have n1 : IntKind.i64.wrap (-p') = p := by rw [IntKind.wrap_i64]; omega
    have n2 : IntKind.i64.wrap (-q') = q := by rw [IntKind.wrap_i64]; omega
    have n3 : (p != 0) = true := by simp; omega
    have n4 : (p == p) = true := by simp
    have n5 : (q == q) = true := by simp
    clear hx0 hx1 hy0 hy1 hX s1 s2 s3 s4 hp hq hp' hq' hx7 hy8 HAt
    go_wp2_with fail
    refine (E1.out _).mono ?_
    rintro e w2 ⟨rfl, hb2⟩
    have HB2 := Lib.hid (HB.out.trans (hb2.mono HB.out.size))
    clear hb2 HB hx hx' hy hy'
    go_wp2_with fail
    refine (E2.out _).mono ?_
    rintro e w3 ⟨rfl, hb3⟩
    have HB3 := Lib.hid (HB2.out.trans (hb3.mono HB2.out.size))
    clear hb3 HB2 E2
    go_wp2_with fail
    refine (E1.out _).mono ?_
    rintro e w4 ⟨rfl, hb4⟩
    have HB4 := Lib.hid (HB3.out.trans (hb4.mono HB3.out.size))
    clear hb4 HB3 E1
    go_wp2_with fail
    refine (E3.out _).mono ?_
    rintro e w5 ⟨rfl, hb5⟩
    have HB5 := Lib.hid (HB4.out.trans (hb5.mono HB4.out.size))
    clear hb5 HB4 E3
    go_wp2_with fail
    refine (E4.out _).mono ?_
    rintro e w6 ⟨rfl, hb6⟩
    have HB6 := Lib.hid (HB5.out.trans (hb6.mono HB5.out.size))
    clear hb6 HB5 E4
    go_wp2
    go_ret
    exact ⟨rfl, HB6.out⟩
end Go.Proofs.YtieophdbhnpncaaGreat.Hgt
