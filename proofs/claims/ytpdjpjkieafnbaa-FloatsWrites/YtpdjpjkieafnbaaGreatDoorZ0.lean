import Derived.Test.YtpdjpjkieafnbaaGreatDoorR4
import Derived.Test.YtpdjpjkieafnbaaGreatDoorLBase
set_option linter.unusedVariables false
set_option linter.unusedSimpArgs false
namespace Go.Proofs.YtpdjpjkieafnbaaGreatDoor.Li
open Lb
/-- What a hexadecimal digit says; what a row of them says. -/
def hv (b : UInt8) : Nat := (dgO b.toNat).toNat
def hnat (l : List UInt8) : Nat := l.foldl (fun n b => n * 16 + hv b) 0
def allX (l : List UInt8) : Prop := ∀ b ∈ l, isX true b = true
theorem hfold (l : List UInt8) (n : Nat) : l.foldl (fun n b => n * 16 + hv b) n = n * 16 ^ l.length + hnat l := by
  unfold hnat
  induction l generalizing n with
  | nil => simp
  | cons b l ih =>
    rw [List.foldl_cons, List.foldl_cons, ih, ih (0 * 16 + hv b), List.length_cons, Nat.pow_succ]
    rw [Nat.zero_mul, Nat.zero_add, Nat.add_mul, Nat.mul_assoc, Nat.mul_comm 16, Nat.add_assoc]
theorem hnat_cons (b : UInt8) (l : List UInt8) : hnat (b :: l) = hv b * 16 ^ l.length + hnat l := by
  show List.foldl _ (0 * 16 + hv b) l = _
  rw [hfold, Nat.zero_mul, Nat.zero_add]
theorem hnat_append (a b : List UInt8) : hnat (a ++ b) = hnat a * 16 ^ b.length + hnat b := by
  show List.foldl _ 0 (a ++ b) = _
  rw [List.foldl_append, hfold]
  rfl
end Go.Proofs.YtpdjpjkieafnbaaGreatDoor.Li
