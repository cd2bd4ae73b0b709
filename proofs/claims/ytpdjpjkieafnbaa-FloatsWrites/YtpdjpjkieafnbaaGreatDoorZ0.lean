import Derived.Test.YtpdjpjkieafnbaaGreatDoorR4
import Derived.Test.YtpdjpjkieafnbaaGreatDoorLBase
set_option linter.unusedVariables false
set_option linter.unusedSimpArgs false
namespace Go.Proofs.YtpdjpjkieafnbaaGreatDoor.Li
open Lb
/-- What a hexadecimal digit says; what a row of them says. -/
def hv (b : UInt8) : Nat := (dgO b.toNat).toNat
def hnat (l : List UInt8) : Nat := l.foldl (fun n b => n * 16 + hv b) 0
def allX (l : List UInt8) : Prop := ∀ b ∈ l, isX true b = true
theorem dgO_lt (r : Nat) : dgO r < 16 := by
  unfold dgO
  (repeat' split) <;> omega
theorem hv_of {b : UInt8} (h : isX true b = true) : dgO b.toNat = (hv b : Int) ∧ hv b < 16 := by
  have h1 : 0 ≤ dgO b.toNat := by
    unfold isX at h
    simpa using h
  have := dgO_lt b.toNat
  unfold hv
  omega
theorem hfold (l : List UInt8) (n : Nat) : l.foldl (fun n b => n * 16 + hv b) n = n * 16 ^ l.length + hnat l := by
  unfold hnat
  induction l generalizing n with
  | nil => simp
  | cons b l ih =>
    rw [List.foldl_cons, List.foldl_cons, ih, ih (0 * 16 + hv b), List.length_cons, Nat.pow_succ]
    rw [Nat.zero_mul, Nat.zero_add, Nat.add_mul, Nat.mul_assoc, Nat.mul_comm 16, Nat.add_assoc]
theorem hnat_cons (b : UInt8) (l : List UInt8) : hnat (b :: l) = hv b * 16 ^ l.length + hnat l := by
  show List.foldl _ (0 * 16 + hv b) l = _
  rw [hfold, Nat.zero_mul, Nat.zero_add]
theorem hnat_append (a b : List UInt8) : hnat (a ++ b) = hnat a * 16 ^ b.length + hnat b := by
  show List.foldl _ 0 (a ++ b) = _
  rw [List.foldl_append, hfold]
  rfl
theorem hnat_lt {l : List UInt8} (h : allX l) : hnat l < 16 ^ l.length := by
  induction l with
  | nil => show 0 < 1; omega
  | cons b l ih =>
    rw [hnat_cons, List.length_cons, Nat.pow_succ]
    have h1 := (hv_of (h b (List.mem_cons_self ..))).2
    have h2 := ih (fun x hx => h x (List.mem_cons_of_mem _ hx))
    have h3 : hv b * 16 ^ l.length ≤ 15 * 16 ^ l.length := Nat.mul_le_mul_right _ (by omega)
    generalize 16 ^ l.length = Z at *
    omega
/-- The last digits, one more. -/
theorem hnat_last (l : List UInt8) (i : Nat) (h : i < l.length) : hnat (l.drop (l.length - (i + 1))) = hv (l.getD (l.length - 1 - i) 0) * 16 ^ i + hnat (l.drop (l.length - i)) := by
  have h1 : l.length - (i + 1) < l.length := by omega
  rw [List.drop_eq_getElem_cons h1, hnat_cons, List.length_drop, show l.length - (i + 1) + 1 = l.length - i by omega, show l.length - (l.length - i) = i by omega]
  congr 2
  simp [List.getD, show l.length - 1 - i = l.length - (i + 1) by omega, h1]
/-- A limb is filled: what stands there, and a digit more. -/
theorem or_shift (a d k : Nat) (ha : a < 2 ^ k) : a ||| (d * 2 ^ k) = a + d * 2 ^ k := by
  rw [Nat.or_comm, Nat.mul_comm d, ← Nat.two_pow_add_eq_or_of_lt ha, Nat.add_comm]
/-- The row after one digit more. -/
theorem val_put (r : List Nat) (q : Nat) (hq : q < r.length) (v : Nat) : val (r.set q (r.getD q 0 + v)) = val r + v * 4294967296 ^ q := by
  induction r generalizing q with
  | nil => simp at hq
  | cons x r ih =>
    cases q with
    | zero =>
      simp [val]
      omega
    | succ q =>
      have h := ih q (by simpa using hq)
      simp only [List.set_cons_succ, List.getD_cons_succ, val]
      rw [h, Nat.pow_succ, Nat.mul_add]
      have : 4294967296 * (v * 4294967296 ^ q) = v * (4294967296 ^ q * 4294967296) := by
        rw [Nat.mul_left_comm, Nat.mul_comm 4294967296]
      omega
end Go.Proofs.YtpdjpjkieafnbaaGreatDoor.Li
