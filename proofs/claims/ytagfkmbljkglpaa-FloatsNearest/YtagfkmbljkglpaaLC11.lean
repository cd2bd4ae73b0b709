import Derived.Test.YtagfkmbljkglpaaProg
import Derived.Test.YtagfkmbljkglpaaLC10
import Derived.WalkKit
import Derived.WalkSpells
import Derived.WalkLawsBesides
import Derived.Laws.CopyOwn
import Derived.Deep.Draws
import Derived.Deep.QuietTactic
import Derived.BigQuiet
import Derived.Laws.MathBits
import Derived.Shelf.Small.Bits
import Derived.Shelf.Strconv.Itoa0
import Derived.Shelf.Bits.Mul64
set_option linter.unusedVariables false
set_option linter.unusedSimpArgs false
namespace Go.Proofs.Ytagfkmbljkglpaa
open Go.RowKit Lb
set_option maxRecDepth 100000 in
set_option maxHeartbeats 400000 in
theorem DivMod_of (a b : Option Addr) (ca cb : Nat) (la lb : List Nat) (w : World) (hca : la.length ≤ ca) (hcb : lb.length ≤ cb) (hla : la.length ≤ 70368744177664) (hlb : lb.length ≤ 70368744177664) (hra : Rd w a la) (hrb : Rd w b lb)
    (hb0 : nl lb ≠ 0)
    (hdiv : Calls Try.prog 31 #[.slice a (nl la) ca, .slice b (nl lb) cb] w fun e w' => ∃ vq vr, e = .returned (.tuple #[vq, vr]) ∧ NatR w.heap.size w' vq (val la / val lb) ∧ NatR w.heap.size w' vr (val la % val lb) ∧ Keep w w') :
    Calls Try.prog 22 #[.slice a la.length ca, .slice b lb.length cb] w fun e w' => ∃ vq vr, e = .returned (.tuple #[vq, vr, .int .i64 0]) ∧ NatR w.heap.size w' vq (val la / val lb) ∧ NatR w.heap.size w' vr (val la % val lb) ∧ Keep w w' := by
  have t1 := trim_any a ca la w hca (by omega) hra
  have t2 := trim_any b cb lb w hcb (by omega) hrb
  have h0 : ((nl lb : Int) == 0) = false := by simp; omega
  go_enter Try.func22, Try.ntmps22
  go_wp2_with fail
  refine t1.mono ?_
  rintro e w' ⟨rfl, rfl⟩
  go_wp2_with fail
  refine t2.mono ?_
  rintro e w' ⟨rfl, rfl⟩
  go_wp2_with fail
  refine hdiv.mono ?_
  rintro e w1 ⟨vq, vr, rfl, hq, hr, hk⟩
  go_wp2
  go_ret3
  exact ⟨_, _, rfl, hq, hr, hk⟩
theorem NatR.shape {B : Nat} {w : World} {v : Value} {n : Nat} (h : NatR B w v n) : ∃ a c l, v = .slice a l.length c ∧ l.length ≤ c ∧ Rd w a l ∧ Lim l ∧ Nrm l ∧ val l = n ∧ Res B w v l := by
  obtain ⟨l, h1, h2, h3, h4⟩ := h
  obtain ⟨a, c, e, hc, hr⟩ := h1.shape
  exact ⟨a, c, l, e, hc, hr, h2, h3, h4, h1⟩
/-- What divide does, up to so many limbs of the divisor. -/
def DivideSaid (K : Nat) : Prop := ∀ (a b : Option Addr) (ca cb : Nat) (la lb : List Nat) (w : World), la.length ≤ 70368744177663 → lb.length ≤ K → Rd w a la → Rd w b lb → Lim la → Lim lb → Nrm la → Nrm lb → lb ≠ [] →
    Calls Try.prog 31 #[.slice a la.length ca, .slice b lb.length cb] w fun e w' => ∃ vq vr, e = .returned (.tuple #[vq, vr]) ∧ NatR w.heap.size w' vq (val la / val lb) ∧ NatR w.heap.size w' vr (val la % val lb) ∧ Keep w w'
theorem divide_K1 : DivideSaid 1 := by
  intro a b ca cb la lb w hla hlb hra hrb hma hmb na nb hb0
  by_cases hlt : val la < val lb
  · exact divide_less a b ca cb la lb w (by omega) (by omega) hra hrb hma hmb na nb hlt
  · have hl1 : 0 < lb.length := List.length_pos_iff.2 hb0
    obtain ⟨y, rfl⟩ : ∃ y, lb = [y] := List.length_eq_one_iff.1 (by omega)
    have hy : y < 4294967296 := hmb y (by simp)
    have hy0 : 0 < y := by simp [Nrm] at nb; omega
    have hv : val [y] = y := by simp [val]
    rw [hv] at hlt ⊢
    exact divide_one a b ca cb la y w (by omega) hra hrb hma na hy0 hy hlt
end Go.Proofs.Ytagfkmbljkglpaa
