/- Hexadecimal digits: the plain mathematics, and the row of a byte in the table of types. -/
import Derived.Test.YtpeolcgogidipaaDoorRows
import Derived.Test.YtpeolcgogidipaaDoorBase
import Derived.WalkKit
import Derived.WalkSpells
import Derived.WalkLawsBesides
import Derived.Deep.QuietTactic
import Derived.BigQuiet
import Derived.Lib.Hide
import Derived.Deep.RegionHeld3
import Derived.Deep.AppendLies
namespace Go.Proofs.YtpeolcgogidipaaDoor.Hex
set_option linter.unusedVariables false
open Go.RowKit Go.Proofs.YtpeolcgogidipaaDoor.Base
/-- the character of a digit, as a number. -/
def fig (x : Int) : Int := if x < 10 then 48 + x else 87 + x
/-- the digits of the bytes. -/
def digs (l : List UInt8) : List Int := l.flatMap fun c => [fig ((c.toNat : Int) / 16), fig ((c.toNat : Int) % 16)]
theorem digs_length (l : List UInt8) : (digs l).length = l.length * 2 := by
  induction l with
  | nil => rfl
  | cons c l ih => simp [digs] at *; omega
theorem digs_snoc (l : List UInt8) (c : UInt8) : digs (l ++ [c]) = digs l ++ [fig ((c.toNat : Int) / 16), fig ((c.toNat : Int) % 16)] := by simp [digs]
theorem take_snoc (s : ByteArray) (k : Nat) (h : k < s.size) : s.data.toList.take (k + 1) = s.data.toList.take k ++ [s[k]] := by
  rw [List.take_succ_eq_append_getElem (by simpa using h)]; rfl

theorem u8info : (Tryd.prog.info? 5).map (fun i => (i.zero, i.size, i.bytes)) = some (some (.int .u8 0), 1, 1) := by kernel_rfl

theorem wrap_quo (c : Nat) (h : c < 256) : IntKind.u8.wrap ((c : Int) / 16) = (c : Int) / 16 := by simp only [IntKind.wrap_u8]; omega
theorem wrap_byte (c : Nat) (h : c < 256) : IntKind.i64.wrap (c : Int) = (c : Int) := by simp only [IntKind.wrap_i64]; omega
theorem wrap_quo64 (c : Nat) (h : c < 256) : IntKind.i64.wrap ((c : Int) / 16) = (c : Int) / 16 := by simp only [IntKind.wrap_i64]; omega
theorem tmod_byte (c : Nat) : (c : Int).tmod 16 = (c : Int) % 16 := rfl
end Go.Proofs.YtpeolcgogidipaaDoor.Hex
