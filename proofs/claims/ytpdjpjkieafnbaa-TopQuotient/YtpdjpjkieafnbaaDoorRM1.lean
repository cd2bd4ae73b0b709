import Derived.Test.YtpdjpjkieafnbaaDoorNC3
import Derived.Test.YtpdjpjkieafnbaaDoorR10
set_option linter.unusedVariables false
set_option linter.unusedSimpArgs false
namespace Go.Proofs.YtpdjpjkieafnbaaDoor.Li
open Go.RowKit Lb Nr
theorem sA_scale (g N : Nat) (e : Int) : sA (g * N) e = g * sA N e := by unfold sA; rw [Nat.mul_assoc]
theorem sB_scale (g N : Nat) (e : Int) : sB (g * N) e = g * sB N e := by unfold sB; rw [Nat.mul_assoc]
theorem isE_scale {g N D : Nat} (hg : 0 < g) (e : Int) : IsE (g * N) (g * D) e ↔ IsE N D e := by
  unfold IsE fl
  simp only [sA_scale, sB_scale, Nat.mul_div_mul_left _ _ hg]
theorem rup_scale {g N D : Nat} (hg : 0 < g) (hD : 0 < D) (e : Int) : rup (sA (g * N) e) (sB (g * D) e) = rup (sA N e) (sB D e) := by
  apply rup_ratio (sB_pos (Nat.mul_pos hg hD) e) (sB_pos hD e)
  rw [sA_scale, sB_scale, Nat.mul_assoc, Nat.mul_left_comm]
/-- The bits of the number nearest to a quotient. -/
def NB (N D x : Nat) : Prop := (N = 0 → x = 0) ∧ (0 < N → ∀ E, IsE N D E → x = wb (rup (sA N E) (sB D E)) E)
theorem NB.same {N D N' D' x : Nat} (h : NB N D x) (hD : 0 < D) (hD' : 0 < D') (he : N * D' = N' * D) : NB N' D' x := by
  refine ⟨fun h0 => h.1 ?_, fun h0 E hE => ?_⟩
  · rw [h0, Nat.zero_mul] at he
    rcases Nat.mul_eq_zero.1 he with c | c
    · exact c
    · omega
  · have hN : 0 < N := by
      rcases Nat.eq_zero_or_pos N with c | c
      · exfalso
        rw [c, Nat.zero_mul] at he
        have : 0 < N' * D := Nat.mul_pos h0 hD
        omega
      · exact c
    have e1 : D' * N = D * N' := by rw [Nat.mul_comm D' N, Nat.mul_comm D N']; exact he
    have e2 : D' * D = D * D' := Nat.mul_comm _ _
    have a := (isE_scale (N := N') (D := D') hD E).2 hE
    rw [← e1, ← e2] at a
    have b := (isE_scale (N := N) (D := D) hD' E).1 a
    rw [h.2 hN E b]
    have q1 := rup_scale (N := N) (D := D) hD' hD E
    have q2 := rup_scale (N := N') (D := D') hD hD' E
    rw [e1, e2, q2] at q1
    rw [q1]
theorem two_lt {a b : Nat} (h : (2 : Nat) ^ a < 2 ^ b) : a < b := (Nat.pow_lt_pow_iff_right (by omega)).1 h
theorem NB.high {N D : Nat} (k : Nat) (hk : 1100 < k) (hD : 0 < D) (h : D * 2 ^ k ≤ N) : NB N D 9218868437227405312 := by
  have hN : 0 < N := Nat.lt_of_lt_of_le (Nat.mul_pos hD (Nat.two_pow_pos _)) h
  refine ⟨fun h0 => by clear h; omega, fun _ E hE => (far_high hN hD ?_ hE).symm⟩
  have a := (sz_ge hD)
  have b := sz_lt N
  have c : 2 ^ (sz D - 1 + k) < 2 ^ sz N := by
    rw [Nat.pow_add]
    exact Nat.lt_of_le_of_lt (Nat.le_trans (Nat.mul_le_mul_right _ a.1) h) b
  have d := two_lt c
  have e := a.2
  clear a b c h
  omega
theorem NB.low {N D : Nat} (k : Nat) (hk : 1100 < k) (hD : 0 < D) (h : N * 2 ^ k ≤ D) : NB N D 0 := by
  refine ⟨fun _ => rfl, fun hN E hE => (far_low hD ?_ hE).symm⟩
  have a := (sz_ge hN)
  have b := sz_lt D
  have c : 2 ^ (sz N - 1 + k) < 2 ^ sz D := by
    rw [Nat.pow_add]
    exact Nat.lt_of_le_of_lt (Nat.le_trans (Nat.mul_le_mul_right _ a.1) h) b
  have d := two_lt c
  have e := a.2
  clear a b c h
  omega
/-- Noughts behind. -/
theorem tr0_split (l : List UInt8) : ∃ q, l = tr0 l ++ List.replicate q 48 := by
  have h := List.takeWhile_append_dropWhile (p := fun b : UInt8 => b == 48) (l := l.reverse)
  have hr : l = (l.reverse.dropWhile fun b : UInt8 => b == 48).reverse ++ (l.reverse.takeWhile fun b : UInt8 => b == 48).reverse := by
    rw [← List.reverse_append, h, List.reverse_reverse]
  have ha : ∀ b ∈ (l.reverse.takeWhile fun b : UInt8 => b == 48), b = 48 := by
    intro b hb
    have := tw_all (fun b : UInt8 => b == 48) l.reverse b hb
    simpa using this
  refine ⟨(l.reverse.takeWhile fun b : UInt8 => b == 48).length, ?_⟩
  have e : (l.reverse.takeWhile fun b : UInt8 => b == 48).reverse = List.replicate (l.reverse.takeWhile fun b : UInt8 => b == 48).length 48 := by
    rw [List.eq_replicate_iff]
    refine ⟨by simp, ?_⟩
    intro b hb
    exact ha b (by simpa using hb)
  rw [← e]
  exact hr
/-- A decimal's digits: without the noughts at both ends. -/
theorem dec_parts {l : List UInt8} (hd : allD l) : ∃ q : Nat, (tl0 l).length = (tr0 (tl0 l)).length + q ∧ nat l = nat (tr0 (tl0 l)) * 10 ^ q ∧ (tr0 (tl0 l) = [] → nat l = 0) ∧ (tr0 (tl0 l) ≠ [] → 0 < nat (tr0 (tl0 l)) ∧ 10 ^ ((tr0 (tl0 l)).length - 1) ≤ nat (tr0 (tl0 l))) ∧ allD (tr0 (tl0 l)) ∧ nat (tr0 (tl0 l)) < 10 ^ (tr0 (tl0 l)).length := by
  obtain ⟨q, hq⟩ := tr0_split (tl0 l)
  have hdt := tl0_allD hd
  have h1 : nat l = nat (tr0 (tl0 l)) * 10 ^ q := by
    rw [← tl0_nat l]
    have := nat_append (tr0 (tl0 l)) (List.replicate q 48)
    rw [← hq, nat_zeros, List.length_replicate, Nat.add_zero] at this
    exact this
  have hl : (tl0 l).length = (tr0 (tl0 l)).length + q := by
    have := congrArg List.length hq
    rw [List.length_append, List.length_replicate] at this
    exact this
  have hds : allD (tr0 (tl0 l)) := by
    intro x hx
    apply hdt
    rw [hq]
    exact List.mem_append_left _ hx
  refine ⟨q, hl, h1, ?_, ?_, hds, nat_lt hds⟩
  · intro e
    rw [h1, e]
    simp [nat]
  · intro hne
    have hne2 : tl0 l ≠ [] := by
      intro e
      rw [e] at hne
      exact hne rfl
    have hge := tl0_ge hd hne2
    rw [h1, hl] at hge
    have hlen : 0 < (tr0 (tl0 l)).length := List.length_pos_iff.2 hne
    rw [show (tr0 (tl0 l)).length + q - 1 = (tr0 (tl0 l)).length - 1 + q by omega, Nat.pow_add] at hge
    have h2 := Nat.le_of_mul_le_mul_right hge (Nat.pow_pos (by omega))
    exact ⟨Nat.lt_of_lt_of_le (Nat.pow_pos (by omega)) h2, h2⟩
/-- Beyond all numbers, or below. -/
theorem dec_high {S L : Nat} {p : Int} (k : Nat) (hk : 1100 < k) (h1 : 10 ^ (L - 1) ≤ S) (hL : 0 < L) (hp : (k : Int) < (L : Int) + p) : NB (S * 10 ^ p.toNat) (10 ^ (-p).toNat) 9218868437227405312 := by
  apply NB.high k hk (Nat.pow_pos (by omega))
  have a : 10 ^ (-p).toNat * 2 ^ k ≤ 10 ^ (-p).toNat * 10 ^ k := Nat.mul_le_mul_left _ (Nat.pow_le_pow_left (by omega) k)
  have b : 10 ^ (-p).toNat * 10 ^ k ≤ 10 ^ (L - 1) * 10 ^ p.toNat := by
    rw [← Nat.pow_add, ← Nat.pow_add]
    exact Nat.pow_le_pow_right (by omega) (by clear h1 a; omega)
  exact Nat.le_trans a (Nat.le_trans b (Nat.mul_le_mul_right _ h1))
theorem dec_low {S L : Nat} {p : Int} (k : Nat) (hk : 1100 < k) (h1 : S < 10 ^ L) (hp : (L : Int) + p ≤ -(k : Int)) : NB (S * 10 ^ p.toNat) (10 ^ (-p).toNat) 0 := by
  apply NB.low k hk (Nat.pow_pos (by omega))
  have hz : p.toNat = 0 := by clear h1; omega
  rw [hz, Nat.pow_zero, Nat.mul_one]
  have a : S * 2 ^ k ≤ 10 ^ L * 10 ^ k := Nat.mul_le_mul (Nat.le_of_lt h1) (Nat.pow_le_pow_left (by omega) k)
  refine Nat.le_trans a ?_
  rw [← Nat.pow_add]
  exact Nat.pow_le_pow_right (by omega) (by clear h1 a; omega)
/-- The point and the noughts moved. -/
theorem NB.moved {S q : Nat} {P p : Int} {x : Nat} (hp : p = P + (q : Int)) (h : NB (S * 10 ^ p.toNat) (10 ^ (-p).toNat) x) : NB (S * 10 ^ q * 10 ^ P.toNat) (10 ^ (-P).toNat) x := by
  refine h.same (Nat.pow_pos (by omega)) (Nat.pow_pos (by omega)) ?_
  rw [Nat.mul_assoc, Nat.mul_assoc, Nat.mul_assoc, ← Nat.pow_add, ← Nat.pow_add, ← Nat.pow_add]
  rw [show p.toNat + (-P).toNat = q + (P.toNat + (-p).toNat) by omega]
end Go.Proofs.YtpdjpjkieafnbaaDoor.Li
