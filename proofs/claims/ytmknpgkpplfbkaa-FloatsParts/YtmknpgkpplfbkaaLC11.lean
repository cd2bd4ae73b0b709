import Derived.Test.YtmknpgkpplfbkaaProg
import Derived.Test.YtmknpgkpplfbkaaLC10
import Derived.WalkKit
import Derived.WalkSpells
import Derived.WalkLawsBesides
import Derived.Laws.CopyOwn
import Derived.Deep.Draws
import Derived.Deep.QuietTactic
import Derived.BigQuiet
import Derived.Laws.MathBits
import Derived.Shelf.Small.Bits
set_option linter.unusedVariables false
set_option linter.unusedSimpArgs false
namespace Go.Proofs.Ytmknpgkpplfbkaa
open Go.RowKit Lb
set_option maxRecDepth 100000 in
set_option maxHeartbeats 400000 in
theorem divisor64_any (x y : Nat) (w : World) (hx : x < 18446744073709551616) (hy : y < 18446744073709551616) :
    Calls Try.prog 31 #[.int .u64 (x : Nat), .int .u64 (y : Nat)] w fun e w' => e = .returned (.int .u64 (Nat.gcd x y : Nat)) ∧ Dr w w' := by
  go_enter Try.func31, Try.ntmps31
  go_wp2
  go_loopw [0, 1] (fun s t wr => ∃ p q : Nat, p < 18446744073709551616 ∧ q < 18446744073709551616 ∧ s = .int .u64 (p : Nat) ∧ t = .int .u64 (q : Nat) ∧ Hid (Nat.gcd p q = Nat.gcd x y) ∧ Dr w wr) (fun _ t _ => (intOf t).toNat)
  case atStart => exact ⟨x, y, hx, hy, rfl, rfl, rfl, Dr.refl _⟩
  case round =>
    obtain ⟨p, q, hp, hq, rfl, rfl, hg, hd⟩ := hrel
    by_cases h0 : q = 0
    · subst h0
      go_wp2
      go_ret
      exact ⟨ret_int (by rw [← hg.out, Nat.gcd_zero_right]), hd⟩
    · have hne : ((q : Int) != 0) = true := by simp; omega
      have hne' : ¬ (q : Int) = 0 := by omega
      go_wp2
      go_region
      go_wp2
      go_roundw
      case rel => exact ⟨q, p % q, hq, Nat.lt_of_le_of_lt (Nat.mod_le _ _) hp, rfl, by simp, by show _ = _; rw [← hg.out, Nat.gcd_comm q, ← Nat.gcd_rec, Nat.gcd_comm], hd.drewN 1⟩
      case measure =>
        have := Nat.mod_lt p (show 0 < q by omega)
        rw [show intOf (.int .u64 ((p : Int) % (q : Int))) = ((p % q : Nat) : Int) from by simp [intOf]]
        simp [intOf]; omega
/-- Two limbs and fewer: a number. -/
theorem val_two {l : List Nat} (h : Lim l) (h2 : l.length ≤ 2) : val l < 18446744073709551616 := by
  have h1 := val_lt h
  have h3 : 4294967296 ^ l.length ≤ 4294967296 ^ 2 := Nat.pow_le_pow_right (by omega) h2
  omega
theorem NatR.shape {B : Nat} {w : World} {v : Value} {n : Nat} (h : NatR B w v n) : ∃ a c l, v = .slice a l.length c ∧ l.length ≤ c ∧ Rd w a l ∧ Lim l ∧ Nrm l ∧ val l = n ∧ Res B w v l := by
  obtain ⟨l, h1, h2, h3, h4⟩ := h
  obtain ⟨a, c, e, hc, hr⟩ := h1.shape
  exact ⟨a, c, l, e, hc, hr, h2, h3, h4, h1⟩
theorem len_two {l : List Nat} (n : Nrm l) (h : val l < 18446744073709551616) : l.length ≤ 2 := by
  rcases Nat.lt_or_ge 2 l.length with h2 | h2
  · have h1 := val_ge n (by intro h0; simp [h0] at h2)
    have h3 : 4294967296 ^ 2 ≤ 4294967296 ^ (l.length - 1) := Nat.pow_le_pow_right (by omega) (by omega)
    omega
  · exact h2
/-- What divide does, up to so many limbs of the divisor. -/
def DivideSaid (K : Nat) : Prop := ∀ (a b : Option Addr) (ca cb : Nat) (la lb : List Nat) (w : World), la.length ≤ 70368744177663 → lb.length ≤ K → Rd w a la → Rd w b lb → Lim la → Lim lb → Nrm la → Nrm lb → lb ≠ [] →
    Calls Try.prog 23 #[.slice a la.length ca, .slice b lb.length cb] w fun e w' => ∃ vq vr, e = .returned (.tuple #[vq, vr]) ∧ NatR w.heap.size w' vq (val la / val lb) ∧ NatR w.heap.size w' vr (val la % val lb) ∧ Keep w w'
theorem divide_K1 : DivideSaid 1 := by
  intro a b ca cb la lb w hla hlb hra hrb hma hmb na nb hb0
  by_cases hlt : val la < val lb
  · exact divide_less a b ca cb la lb w (by omega) (by omega) hra hrb hma hmb na nb hlt
  · have hl1 : 0 < lb.length := List.length_pos_iff.2 hb0
    obtain ⟨y, rfl⟩ : ∃ y, lb = [y] := List.length_eq_one_iff.1 (by omega)
    have hy : y < 4294967296 := hmb y (by simp)
    have hy0 : 0 < y := by simp [Nrm] at nb; omega
    have hv : val [y] = y := by simp [val]
    rw [hv] at hlt ⊢
    exact divide_one a b ca cb la y w (by omega) hra hrb hma na hy0 hy hlt
end Go.Proofs.Ytmknpgkpplfbkaa
