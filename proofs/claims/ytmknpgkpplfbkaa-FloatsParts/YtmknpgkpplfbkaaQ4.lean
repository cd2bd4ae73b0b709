import Derived.Test.YtmknpgkpplfbkaaQ3
import Derived.Test.YtmknpgkpplfbkaaLK1
set_option linter.unusedVariables false
set_option linter.unusedSimpArgs false
namespace Go.Proofs.Ytmknpgkpplfbkaa
open Go.RowKit Lb
/-- A natural as a value, that can be read. -/
def Nv (w : World) (v : Value) (n : Nat) : Prop := ∃ a c l, v = .slice a l.length c ∧ l.length ≤ c ∧ Rd w a l ∧ Lim l ∧ Nrm l ∧ val l = n
theorem Nv.keep {w w' : World} {v : Value} {n : Nat} (h : Nv w v n) (k : Keep w w') : Nv w' v n := by
  obtain ⟨a, c, l, e, h1, h2, h3⟩ := h
  exact ⟨a, c, l, e, h1, h2.keep k, h3⟩
theorem len_of {l : List Nat} (hn : Nrm l) {k : Nat} (h : val l < 4294967296 ^ k) : l.length ≤ k := by
  by_cases e : l = []
  · subst e; simp
  · have h1 := val_ge hn e
    rcases Nat.lt_or_ge k l.length with h2 | h2
    · have h3 : 4294967296 ^ k ≤ 4294967296 ^ (l.length - 1) := Nat.pow_le_pow_right (by omega) (by omega)
      omega
    · exact h2
set_option maxRecDepth 100000 in
theorem scaled_any (v1 v2 : Value) (n d : Nat) (e : Int) (w : World) (h1 : Nv w v1 n) (h2 : Nv w v2 d) (hn : n < 18446744073709551616) (hd : d < 18446744073709551616) (he : -1074 ≤ e ∧ e ≤ 1000) :
    Calls Try.prog 14 #[v1, v2, .int .i64 e] w fun en w' => ∃ u1 u2, en = .returned (.tuple #[u1, u2]) ∧ Nv w' u1 (n * 2 ^ e.toNat) ∧ Nv w' u2 (d * 2 ^ (-e).toNat) ∧ Keep w w' := by
  obtain ⟨a1, c1, l1, rfl, hc1, r1, m1, o1, rfl⟩ := h1
  obtain ⟨a2, c2, l2, rfl, hc2, r2, m2, o2, rfl⟩ := h2
  have hl1 : l1.length ≤ 2 := len_two o1 hn
  have hl2 : l2.length ≤ 2 := len_two o2 hd
  by_cases h0 : e < 0
  · obtain ⟨k, hk⟩ : ∃ k : Nat, -e = (k : Int) := ⟨(-e).toNat, by omega⟩
    have hU := Up_any a2 c2 k l2 w hc2 (by omega) (by omega) r2 m2
    have e1 : e.toNat = 0 := by omega
    have e2 : (-e).toNat = k := by omega
    rw [e1, e2]
    have hk' : IntKind.i64.wrap (-e) = (k : Int) := by rw [IntWalk.i64_left, hk]; exact IntWalk.wrap64_in _ (by omega)
    clear e1 e2
    go_enter Try.func14, Try.ntmps14
    go_wp2_with (go_at_call 20; refine hU.mono ?_; rintro e' w1 ⟨v, rfl, hv, k1⟩)
    go_ret2
    obtain ⟨a, c, l, rfl, q1, q2, q3, q4, q5, -⟩ := hv.shape
    exact ⟨_, _, rfl, ⟨a1, c1, l1, rfl, hc1, r1.keep k1, m1, o1, by simp⟩, ⟨a, c, l, rfl, q1, q2, q3, q4, q5⟩, k1⟩
  · obtain ⟨k, hk⟩ := Int.eq_ofNat_of_zero_le (show 0 ≤ e by omega)
    subst hk
    have hU := Up_any a1 c1 k l1 w hc1 (by omega) (by omega) r1 m1
    have e1 : ((k : Nat) : Int).toNat = k := by omega
    have e2 : (-((k : Nat) : Int)).toNat = 0 := by omega
    rw [e1, e2]
    clear e1 e2
    go_enter Try.func14, Try.ntmps14
    go_wp2_with (go_at_call 20; refine hU.mono ?_; rintro e' w1 ⟨v, rfl, hv, k1⟩)
    go_ret2
    obtain ⟨a, c, l, rfl, q1, q2, q3, q4, q5, -⟩ := hv.shape
    exact ⟨_, _, rfl, ⟨a, c, l, rfl, q1, q2, q3, q4, q5⟩, ⟨a2, c2, l2, rfl, hc2, r2.keep k1, m2, o2, by simp⟩, k1⟩
end Go.Proofs.Ytmknpgkpplfbkaa
