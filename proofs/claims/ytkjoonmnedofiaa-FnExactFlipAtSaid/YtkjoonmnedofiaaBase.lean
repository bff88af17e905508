/- Small lemmas of our own, over any program: a byte slice of the call's own that is turned into a string. -/
import Derived.WalkKit
import Derived.ProofKit
import Derived.Laws.BytesArg
namespace Go.Proofs.Ytkjoonmnedofiaa.Base
open Go.RowKit Go.WideShapes Go.ChangeShapes

theorem add_plain (g j : Nat) : (⟨g, 0, none⟩ : Addr).add j = ⟨g, j, none⟩ := by unfold Addr.add; split <;> simp_all

theorem convert_own {P : Program} {w : World} {base e n : Nat} {v : Value} {xs : List Int} (hown : w.ownsRow base e 1 v n (xs.map (Value.int .u8)))
    {src dst : TypeId} (hs : P.underlying src = some (.slice e)) (he : P.underlying e = some (.int .u8)) (hd : P.underlying dst = some .string) :
    (convert src dst v).run P w = .ok (.string (strOfNums xs)) w := by
  have hlen : xs.length = n := by simpa using hown.1
  rcases hown.2 with ⟨rfl, rfl⟩ | ⟨g, cap, cur, rfl, _⟩
  · have : xs = [] := List.eq_nil_of_length_eq_zero hlen
    subst this
    rw [run_convert_bytes_nil w src e hs he _ _ dst hd]
    rfl
  · refine run_convert_bytes_arg w src e hs he g 0 n cap xs hlen (fun i hi => ?_) dst hd
    have h := hown.cells (g := g) rfl i (.int .u8 (xs.getD i 0)) (by simp [List.getElem?_eq_getElem (by omega : i < xs.length)])
    rw [add_plain] at h
    simpa using h

theorem own_shape {w : World} {base e size n : Nat} {v : Value} {xs : List Value} (h : w.ownsRow base e size v n xs) : ∃ A cap, v = .slice A n cap := by
  rcases h.2 with ⟨rfl, rfl⟩ | ⟨g, cap, cur, rfl, _⟩
  · exact ⟨_, _, rfl⟩
  · exact ⟨_, _, rfl⟩
theorem str_same (a : ByteArray) : (a.toList == a.toList) = true := by simp
theorem str_eq {a b : ByteArray} (h : a = b) : (a.toList == b.toList) = true := by rw [h]; simp
theorem str_ne {a b : ByteArray} (h : a ≠ b) : (a.toList == b.toList) = false := by
  rw [beq_eq_false_iff_ne]
  intro e
  rw [ByteArray.toList_eq, ByteArray.toList_eq] at e
  apply h
  cases a with
  | mk x => cases b with
    | mk y => congr 1; exact Array.ext' e
end Go.Proofs.Ytkjoonmnedofiaa.Base
