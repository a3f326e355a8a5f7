/- Layer 1: the reference's quoted and Unquote. -/
import Derived.Test.YtoapfldmkpobmaaGreatDoorL
import Derived.Deep.CutRange
namespace Go.Proofs.YtoapfldmkpobmaaGreatDoor
open Go.RowKit
theorem ext_pre (s : ByteArray) (a n : Nat) : (s.extract a (a + n)).toList = (s.data.toList.drop a).take n := by
  rw [toList_data, Lib.extract_data, show a + n - a = n by omega]
/-- What the inner loop knows: no form of a byte below j stands here; or the byte b was found. -/
def InRel (l : List UInt8) (acc : List UInt8) (a : Nat) (j : Nat) (found : Bool) (out : List UInt8) (a' : Nat) : Prop :=
  (found = false ∧ out = acc ∧ a' = a ∧ ∀ i, i < j → (escL (UInt8.ofNat i)).isPrefixOf l = false) ∨ (found = true ∧ ∃ b, unescL l = some b ∧ out = acc ++ [b] ∧ a' = a + (escL b).length)
end Go.Proofs.YtoapfldmkpobmaaGreatDoor
