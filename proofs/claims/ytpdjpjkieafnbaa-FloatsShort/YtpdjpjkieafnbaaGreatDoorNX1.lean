import Derived.Test.YtpdjpjkieafnbaaGreatDoorR12
import Derived.Test.YtpdjpjkieafnbaaGreatDoorNC10
set_option linter.unusedVariables false
set_option linter.unusedSimpArgs false
namespace Go.Proofs.YtpdjpjkieafnbaaGreatDoor.Li.Nw
open Go.RowKit Lb Nr
/-- The exponent that a quotient has. -/
def IsE (N D : Nat) (e : Int) : Prop := -149 ≤ e ∧ fl N D e < 16777216 ∧ (e = -149 ∨ 16777216 ≤ fl N D (e - 1))
theorem isE_one {N D : Nat} (hD : 0 < D) {e f : Int} (h : IsE N D e) (g : IsE N D f) : e = f := by
  have key : ∀ a b : Int, IsE N D a → IsE N D b → ¬ a < b := by
    intro a b ha hb hlt
    obtain ⟨d, hd⟩ : ∃ d : Nat, b - 1 = a + d := ⟨(b - 1 - a).toNat, by omega⟩
    rcases hb.2.2 with h1 | h1
    · have := ha.1; omega
    · rw [hd, fl_add hD] at h1
      have h2 := Nat.div_le_self (fl N D a) (2 ^ d)
      have := ha.2.1
      omega
  have := key e f h g
  have := key f e g h
  omega
/-- The bits of a mantissa and an exponent, without a sign. -/
def wb (M : Nat) (E : Int) : Nat := min (if 8388608 ≤ M then M + (E + 149).toNat * 8388608 else M) 2139095040
theorem small_E {N D : Nat} (hD : 0 < D) {e : Int} (h : IsE N D e) : Nr.rup (sA N e) (sB D e) ≤ 16777216 ∧ (Nr.rup (sA N e) (sB D e) < 8388608 → e = -149) := by
  obtain ⟨a, b, c⟩ := h
  have r := rup_le (sA N e) (sB D e)
  unfold fl at b
  refine ⟨by omega, fun hs => ?_⟩
  rcases c with c | c
  · exact c
  · exfalso
    have := fl_add hD (e - 1) 1 (N := N)
    rw [show e - 1 + (1 : Nat) = e by omega] at this
    unfold fl at this c
    omega
theorem p53 : (2 : Nat) ^ 24 = 16777216 := rfl
theorem far_high {N D : Nat} (hN : 0 < N) (hD : 0 < D) (h : 1100 < (sz N : Int) - (sz D : Int)) {E : Int} (hE : IsE N D E) : wb (Nr.rup (sA N E) (sB D E)) E = 2139095040 := by
  have hg : 104 < E := by
    refine Int.not_le.1 fun hle => ?_
    have := fl_ge (c := 24) (e := E) hN hD (by omega)
    rw [p53] at this
    have := hE.2.1
    omega
  obtain ⟨a, b⟩ := small_E hD hE
  have c : ¬ Nr.rup (sA N E) (sB D E) < 8388608 := fun hh => by have := b hh; omega
  unfold wb
  rw [if_pos (by omega)]
  omega
theorem far_low {N D : Nat} (hD : 0 < D) (h : (sz N : Int) - (sz D : Int) < -1100) {E : Int} (hE : IsE N D E) : wb (Nr.rup (sA N E) (sB D E)) E = 0 := by
  have hg : E = -149 := by
    rcases hE.2.2 with g | g
    · exact g
    · exfalso
      have := fl_lt (N := N) (c := 24) (e := E - 1) hD (by have := hE.1; omega)
      rw [p53] at this
      omega
  subst hg
  have h0 := fl_lt (N := N) (c := 0) (e := -149 - 1) hD (by omega)
  have hr : Nr.rup (sA N (-149)) (sB D (-149)) = 0 := by
    have e := rup_ratio (sB_pos hD (-149)) (sB_pos hD (-149)) (rfl : sA N (-149) * sB D (-149) = sA N (-149) * sB D (-149))
    have h1 : 2 * sA N (-149) < sB D (-149) := by
      have h2 : fl N D (-149 - 1) = 0 := by omega
      unfold fl at h2
      rw [Nat.div_eq_zero_iff] at h2
      rcases h2 with h2 | h2
      · have := sB_pos hD (-149 - 1); omega
      · unfold sA sB at h2 ⊢
        obtain ⟨k, hk⟩ : ∃ k : Nat, (-(-149 : Int)).toNat = k := ⟨_, rfl⟩
        have hk1 : (-(-149 - 1 : Int)).toNat = k + 1 := by omega
        rw [hk1, show ((-149 - 1 : Int)).toNat = 0 by decide, Nat.pow_succ] at h2
        rw [hk, show ((-149 : Int)).toNat = 0 by decide]
        clear hk hk1
        generalize (2 : Nat) ^ k = p at *
        rw [← Nat.mul_assoc] at h2
        omega
    unfold Nr.rup
    have h3 : sA N (-149) / sB D (-149) = 0 := Nat.div_eq_of_lt (by omega)
    have h4 : sA N (-149) % sB D (-149) = sA N (-149) := Nat.mod_eq_of_lt (by omega)
    rw [h3, h4, if_neg (by omega)]
  rw [hr]
  rfl
/-- The program's own exponent and mantissa. -/
theorem main_E {N D : Nat} (hN : 0 < N) (hD : 0 < D) {e1 : Int} (he : e1 = max ((sz N : Int) - (sz D : Int) - 24) (-149) - 2) :
    fl N D e1 < 134217728 ∧ ∃ d : Nat, (d = 2 ∨ d = 3) ∧ max ((sz (fl N D e1) : Int) - 24) 2 = (d : Int) ∧ IsE N D (e1 + d) ∧
      Nr.rup (sA N (e1 + d)) (sB D (e1 + d)) = Nr.rup (if sA N e1 % sB D e1 = 0 then fl N D e1 else fl N D e1 ||| 1) (2 ^ d) := by
  have hround : ∀ d : Nat, (d = 2 ∨ d = 3) → Nr.rup (sA N (e1 + d)) (sB D (e1 + d)) = Nr.rup (if sA N e1 % sB D e1 = 0 then fl N D e1 else fl N D e1 ||| 1) (2 ^ d) := by
    intro d hd
    obtain ⟨p, hp, hp2⟩ : ∃ p, 0 < p ∧ 2 ^ d = 4 * p := by
      rcases hd with rfl | rfl
      · exact ⟨1, by omega, rfl⟩
      · exact ⟨2, by omega, rfl⟩
    rw [rup_add hD, hp2]
    have h := sticky (q := fl N D e1) (b := sB D e1) (r := sA N e1 % sB D e1) hp (Nat.mod_lt _ (sB_pos hD e1))
    have e : fl N D e1 * sB D e1 + sA N e1 % sB D e1 = sA N e1 := Nat.div_add_mod' _ _
    rw [e] at h
    exact h.symm
  have hf : ∀ d : Nat, fl N D (e1 + d) = fl N D e1 / 2 ^ d := fun d => fl_add hD e1 d
  have p56 : (2 : Nat) ^ 27 = 134217728 := rfl
  have p55 : (2 : Nat) ^ 26 = 67108864 := rfl
  have p54 : (2 : Nat) ^ 25 = 33554432 := rfl
  by_cases hc : -149 ≤ (sz N : Int) - (sz D : Int) - 24
  · have he2 : e1 = (sz N : Int) - (sz D : Int) - 26 := by omega
    have g1 := fl_ge (c := 25) (e := e1) hN hD (by omega)
    have g2 := fl_lt (N := N) (c := 27) (e := e1) hD (by omega)
    refine ⟨by omega, ?_⟩
    by_cases h5 : fl N D e1 < 67108864
    · have s1 : sz (fl N D e1) = 26 := sz_of (s := 25) g1 (by omega)
      refine ⟨2, .inl rfl, by rw [s1]; rfl, ⟨by omega, ?_, .inr ?_⟩, hround 2 (.inl rfl)⟩
      · rw [hf]; omega
      · rw [show e1 + (2 : Nat) - 1 = e1 + (1 : Nat) by omega, hf]; omega
    · have s1 : sz (fl N D e1) = 27 := sz_of (s := 26) (by omega) g2
      refine ⟨3, .inr rfl, by rw [s1]; rfl, ⟨by omega, ?_, .inr ?_⟩, hround 3 (.inr rfl)⟩
      · rw [hf]; omega
      · rw [show e1 + (3 : Nat) - 1 = e1 + (2 : Nat) by omega, hf]; omega
  · have he2 : e1 = -151 := by omega
    have g2 := fl_lt (N := N) (c := 26) (e := e1) hD (by omega)
    have s1 : sz (fl N D e1) ≤ 26 := sz_le g2
    refine ⟨by omega, 2, .inl rfl, by omega, ⟨by omega, ?_, .inl (by omega)⟩, hround 2 (.inl rfl)⟩
    rw [hf]; omega
theorem exE {N D : Nat} (hN : 0 < N) (hD : 0 < D) : ∃ E, IsE N D E := by
  obtain ⟨_, d, _, _, h, _⟩ := main_E (e1 := max ((sz N : Int) - (sz D : Int) - 24) (-149) - 2) hN hD rfl
  exact ⟨_, h⟩
theorem isE_scale {g N D : Nat} (hg : 0 < g) (e : Int) : IsE (g * N) (g * D) e ↔ IsE N D e := by
  unfold IsE fl
  simp only [sA_scale, sB_scale, Nat.mul_div_mul_left _ _ hg]
theorem rup_scale {g N D : Nat} (hg : 0 < g) (hD : 0 < D) (e : Int) : Nr.rup (sA (g * N) e) (sB (g * D) e) = Nr.rup (sA N e) (sB D e) := by
  apply rup_ratio (sB_pos (Nat.mul_pos hg hD) e) (sB_pos hD e)
  rw [sA_scale, sB_scale, Nat.mul_assoc, Nat.mul_left_comm]
/-- The bits of the number nearest to a quotient. -/
def NB (N D x : Nat) : Prop := (N = 0 → x = 0) ∧ (0 < N → ∀ E, IsE N D E → x = wb (Nr.rup (sA N E) (sB D E)) E)
theorem NB.same {N D N' D' x : Nat} (h : NB N D x) (hD : 0 < D) (hD' : 0 < D') (he : N * D' = N' * D) : NB N' D' x := by
  refine ⟨fun h0 => h.1 ?_, fun h0 E hE => ?_⟩
  · rw [h0, Nat.zero_mul] at he
    rcases Nat.mul_eq_zero.1 he with c | c
    · exact c
    · omega
  · have hN : 0 < N := by
      rcases Nat.eq_zero_or_pos N with c | c
      · exfalso
        rw [c, Nat.zero_mul] at he
        have : 0 < N' * D := Nat.mul_pos h0 hD
        omega
      · exact c
    have e1 : D' * N = D * N' := by rw [Nat.mul_comm D' N, Nat.mul_comm D N']; exact he
    have e2 : D' * D = D * D' := Nat.mul_comm _ _
    have a := (isE_scale (N := N') (D := D') hD E).2 hE
    rw [← e1, ← e2] at a
    have b := (isE_scale (N := N) (D := D) hD' E).1 a
    rw [h.2 hN E b]
    have q1 := rup_scale (N := N) (D := D) hD' hD E
    have q2 := rup_scale (N := N') (D := D') hD hD' E
    rw [e1, e2, q2] at q1
    rw [q1]
theorem NB.high {N D : Nat} (k : Nat) (hk : 1100 < k) (hD : 0 < D) (h : D * 2 ^ k ≤ N) : NB N D 2139095040 := by
  have hN : 0 < N := Nat.lt_of_lt_of_le (Nat.mul_pos hD (Nat.two_pow_pos _)) h
  refine ⟨fun h0 => by clear h; omega, fun _ E hE => (far_high hN hD ?_ hE).symm⟩
  have a := (sz_ge hD)
  have b := sz_lt N
  have c : 2 ^ (sz D - 1 + k) < 2 ^ sz N := by
    rw [Nat.pow_add]
    exact Nat.lt_of_le_of_lt (Nat.le_trans (Nat.mul_le_mul_right _ a.1) h) b
  have d := two_lt c
  have e := a.2
  clear a b c h
  omega
theorem NB.low {N D : Nat} (k : Nat) (hk : 1100 < k) (hD : 0 < D) (h : N * 2 ^ k ≤ D) : NB N D 0 := by
  refine ⟨fun _ => rfl, fun hN E hE => (far_low hD ?_ hE).symm⟩
  have a := (sz_ge hN)
  have b := sz_lt D
  have c : 2 ^ (sz N - 1 + k) < 2 ^ sz D := by
    rw [Nat.pow_add]
    exact Nat.lt_of_le_of_lt (Nat.le_trans (Nat.mul_le_mul_right _ a.1) h) b
  have d := two_lt c
  have e := a.2
  clear a b c h
  omega
/-- Beyond all numbers, or below. -/
theorem dec_high {S L : Nat} {p : Int} (k : Nat) (hk : 1100 < k) (h1 : 10 ^ (L - 1) ≤ S) (hL : 0 < L) (hp : (k : Int) < (L : Int) + p) : NB (S * 10 ^ p.toNat) (10 ^ (-p).toNat) 2139095040 := by
  apply NB.high k hk (Nat.pow_pos (by omega))
  have a : 10 ^ (-p).toNat * 2 ^ k ≤ 10 ^ (-p).toNat * 10 ^ k := Nat.mul_le_mul_left _ (Nat.pow_le_pow_left (by omega) k)
  have b : 10 ^ (-p).toNat * 10 ^ k ≤ 10 ^ (L - 1) * 10 ^ p.toNat := by
    rw [← Nat.pow_add, ← Nat.pow_add]
    exact Nat.pow_le_pow_right (by omega) (by clear h1 a; omega)
  exact Nat.le_trans a (Nat.le_trans b (Nat.mul_le_mul_right _ h1))
theorem dec_low {S L : Nat} {p : Int} (k : Nat) (hk : 1100 < k) (h1 : S < 10 ^ L) (hp : (L : Int) + p ≤ -(k : Int)) : NB (S * 10 ^ p.toNat) (10 ^ (-p).toNat) 0 := by
  apply NB.low k hk (Nat.pow_pos (by omega))
  have hz : p.toNat = 0 := by clear h1; omega
  rw [hz, Nat.pow_zero, Nat.mul_one]
  have a : S * 2 ^ k ≤ 10 ^ L * 10 ^ k := Nat.mul_le_mul (Nat.le_of_lt h1) (Nat.pow_le_pow_left (by omega) k)
  refine Nat.le_trans a ?_
  rw [← Nat.pow_add]
  exact Nat.pow_le_pow_right (by omega) (by clear h1 a; omega)
/-- The point and the noughts moved. -/
theorem NB.moved {S q : Nat} {P p : Int} {x : Nat} (hp : p = P + (q : Int)) (h : NB (S * 10 ^ p.toNat) (10 ^ (-p).toNat) x) : NB (S * 10 ^ q * 10 ^ P.toNat) (10 ^ (-P).toNat) x := by
  refine h.same (Nat.pow_pos (by omega)) (Nat.pow_pos (by omega)) ?_
  rw [Nat.mul_assoc, Nat.mul_assoc, Nat.mul_assoc, ← Nat.pow_add, ← Nat.pow_add, ← Nat.pow_add]
  rw [show p.toNat + (-P).toNat = q + (P.toNat + (-p).toNat) by omega]
theorem NB.le {N D x : Nat} (h : NB N D x) (hD : 0 < D) : x ≤ 2139095040 := by
  rcases Nat.eq_zero_or_pos N with c | c
  · rw [h.1 c]; omega
  · obtain ⟨E, hE⟩ := exE c hD
    rw [h.2 c E hE]
    exact Nat.min_le_right _ _
end Go.Proofs.YtpdjpjkieafnbaaGreatDoor.Li.Nw
