import Derived.Test.YtpdjpjkieafnbaaGreatDoorBC2
import Derived.Test.YtpdjpjkieafnbaaGreatDoorLE7
import Derived.Test.YtpdjpjkieafnbaaGreatDoorLE3
import Derived.Test.YtpdjpjkieafnbaaGreatDoorLD6
import Derived.Test.YtpdjpjkieafnbaaGreatDoorLC6
import Derived.Test.YtpdjpjkieafnbaaGreatDoorR4
import Derived.Test.YtpdjpjkieafnbaaGreatDoorR12
import Derived.Test.YtpdjpjkieafnbaaGreatDoorShelf
import Derived.Deep.CutRange
import Derived.Test.YtpdjpjkieafnbaaGreatDoorH5
import Derived.Test.YtpdjpjkieafnbaaGreatDoorLK1
import Derived.WalkKit
import Derived.WalkSpells
import Derived.WalkLawsBesides
import Derived.Laws.CopyOwn
import Derived.Deep.Draws
import Derived.Deep.QuietTactic
import Derived.BigQuiet
import Derived.Laws.MathBits
import Derived.Laws.BytesArg
import Derived.Lib.OthersKept
import Derived.Deep.RegionWith
import Derived.WalkMore
import Derived.Deep.LoopGhost
import Derived.Deep.RegionHeld3
import Derived.Test.YtpdjpjkieafnbaaGreatDoorLC18
set_option linter.unusedVariables false
set_option linter.unusedSimpArgs false
namespace Go.Proofs.YtpdjpjkieafnbaaGreatDoor.Li
open Go.RowKit Lb
theorem rep0 (k : Nat) : Lib.repeatL [48] k = List.replicate k 48 := by
  induction k with
  | zero => rfl
  | succ k ih => rw [List.replicate_succ, Lib.repeatL, ih]; rfl
theorem rp_of (k : Nat) (hk : k ≤ 100000) (wx : World) : Calls Tryz.prog 109 #[.string ⟨#[48]⟩, .int .i64 (k : Int)] wx fun e w' => e = .returned (.string ⟨(List.replicate k 48).toArray⟩) ∧ Keep wx w' := by
  have h := Tryz.strings_Repeat ⟨#[48]⟩ k wx (by omega) (by show 1 * k ≤ _; omega)
  have e2 : (ByteArray.mk #[48]).data.toList = [48] := rfl
  rw [e2, rep0] at h
  exact h
theorem two_limbs (k K : Nat) (h : k ≤ 32 * K) : (2 : Nat) ^ k ≤ 4294967296 ^ K := by
  rw [show (4294967296 : Nat) = 2 ^ 32 from rfl, ← Nat.pow_mul]
  exact Nat.pow_le_pow_right (by omega) h
theorem five_two (k : Nat) : (5 : Nat) ^ k ≤ 2 ^ (3 * k) := by
  rw [Nat.pow_mul]
  exact Nat.pow_le_pow_left (by omega) k
/-- What is asked of Print. -/
def PrD : Prop := ∀ (a : Option Addr) (ca : Nat) (l : List Nat) (w : World), l.length ≤ ca → l.length ≤ 1000 → Rd w a l → Lim l → Calls Tryz.prog 107 #[.slice a l.length ca] w fun e w' => e = .returned (.string ⟨(dD (val l)).toArray⟩) ∧ Keep w w'
end Go.Proofs.YtpdjpjkieafnbaaGreatDoor.Li
set_option linter.unusedVariables false
set_option linter.unusedSimpArgs false
namespace Go.Proofs.YtpdjpjkieafnbaaGreatDoor.Li
open Go.RowKit Lb
/-- A natural in a block of a run of blocks. -/
def NatQ (B C : Nat) (w : World) (v : Value) (n : Nat) : Prop := ∃ l, ((v = .slice none 0 0 ∧ l = []) ∨ ∃ g r, v = .slice (some ⟨g, 0, none⟩) l.length r.length ∧ B ≤ g ∧ g < C ∧ Row w g r ∧ l.length ≤ r.length ∧ r.take l.length = l) ∧ Lim l ∧ Nrm l ∧ val l = n
theorem NatQ.nil (B C : Nat) (w : World) : NatQ B C w (.slice none 0 0) 0 := ⟨[], .inl ⟨rfl, rfl⟩, by intro x hx; simp at hx, by simp [Nrm], rfl⟩
end Go.Proofs.YtpdjpjkieafnbaaGreatDoor.Li
set_option linter.unusedVariables false
set_option linter.unusedSimpArgs false
namespace Go.Proofs.YtpdjpjkieafnbaaGreatDoor.Li
open Go.RowKit Lb
def qX (b : Nat) : Nat := pM b * 2 ^ (pE b).toNat
def qY (b : Nat) : Nat := 1 * 2 ^ (-(pE b)).toNat
theorem NatQ.lt {B C : Nat} {w : World} {v : Value} {n : Nat} (h : NatQ B C w v n) (hC : C ≤ w.heap.size) : True := trivial
theorem NatQ.shape {B C : Nat} {w : World} {v : Value} {n : Nat} (h : NatQ B C w v n) : ∃ a l c, v = .slice a l c := by
  obtain ⟨l, (h | ⟨g, r, e, _⟩), _⟩ := h
  · exact ⟨none, 0, 0, h.1⟩
  · exact ⟨_, _, _, e⟩
/-- Blocks of a run stay as they were. -/
theorem NatQ.same {B C : Nat} {w w' : World} {v : Value} {n : Nat} (h : NatQ B C w v n) (e : ∀ i, B ≤ i → i < C → w'.heap[i]? = w.heap[i]?) : NatQ B C w' v n := by
  obtain ⟨l, h1, h2⟩ := h
  refine ⟨l, ?_, h2⟩
  rcases h1 with h | ⟨g, r, e1, hb, hc, hr, q⟩
  · exact .inl h
  · exact .inr ⟨g, r, e1, hb, hc, (e g hb hc).trans hr, q⟩
theorem NatQ.mono {B C B' C' : Nat} {w : World} {v : Value} {n : Nat} (h : NatQ B C w v n) (hB : B' ≤ B) (hC : C ≤ C') : NatQ B' C' w v n := by
  obtain ⟨l, h1, h2⟩ := h
  refine ⟨l, ?_, h2⟩
  rcases h1 with h | ⟨g, r, e1, hb, hc, q⟩
  · exact .inl h
  · exact .inr ⟨g, r, e1, by omega, by omega, q⟩
theorem pE_in (b : Nat) : -1074 ≤ pE b ∧ pE b ≤ 971 := by
  unfold pE
  have hf : pField b < 2048 := Nat.mod_lt _ (by omega)
  (repeat' split) <;> omega
theorem pM_lt (b : Nat) : pM b < 9007199254740992 := by
  unfold pM
  have hk : pKept b < 4503599627370496 := Nat.mod_lt _ (by omega)
  split <;> omega
end Go.Proofs.YtpdjpjkieafnbaaGreatDoor.Li
