import Derived.Test.YtpdjpjkieafnbaaGreatDoorR12
import Derived.Test.YtpdjpjkieafnbaaGreatDoorNC10
import Derived.Test.YtpdjpjkieafnbaaGreatDoorProg
import Derived.Test.YtpdjpjkieafnbaaGreatDoorLK1
import Derived.Test.YtpdjpjkieafnbaaGreatDoorLE7
import Derived.Test.YtpdjpjkieafnbaaGreatDoorShelf
import Derived.Test.YtpdjpjkieafnbaaGreatDoorNC3
import Derived.WalkKit
import Derived.WalkSpells
import Derived.WalkLawsBesides
import Derived.Laws.CopyOwn
import Derived.Deep.Draws
import Derived.Deep.QuietTactic
import Derived.BigQuiet
import Derived.Laws.MathBits
import Derived.Laws.BytesArg
import Derived.Lib.OthersKept
import Derived.Deep.RegionWith
import Derived.WalkMore
import Derived.Deep.LoopGhost
import Derived.Laws.Externs
import Derived.Deep.Cut
import Derived.Deep.CutRange
import Derived.Deep.CutBlock
import Derived.Deep.RegionHeld3
set_option linter.unusedVariables false
set_option linter.unusedSimpArgs false
namespace Go.Proofs.YtpdjpjkieafnbaaGreatDoor.Li.Nw
open Go.RowKit Lb Nr
/-- The exponent that a quotient has. -/
def IsE (N D : Nat) (e : Int) : Prop := -149 ≤ e ∧ fl N D e < 16777216 ∧ (e = -149 ∨ 16777216 ≤ fl N D (e - 1))
theorem isE_one {N D : Nat} (hD : 0 < D) {e f : Int} (h : IsE N D e) (g : IsE N D f) : e = f := by
  have key : ∀ a b : Int, IsE N D a → IsE N D b → ¬ a < b := by
    intro a b ha hb hlt
    obtain ⟨d, hd⟩ : ∃ d : Nat, b - 1 = a + d := ⟨(b - 1 - a).toNat, by omega⟩
    rcases hb.2.2 with h1 | h1
    · have := ha.1; omega
    · rw [hd, fl_add hD] at h1
      have h2 := Nat.div_le_self (fl N D a) (2 ^ d)
      have := ha.2.1
      omega
  have := key e f h g
  have := key f e g h
  omega
/-- The bits of a mantissa and an exponent, without a sign. -/
def wb (M : Nat) (E : Int) : Nat := min (if 8388608 ≤ M then M + (E + 149).toNat * 8388608 else M) 2139095040
theorem small_E {N D : Nat} (hD : 0 < D) {e : Int} (h : IsE N D e) : Nr.rup (sA N e) (sB D e) ≤ 16777216 ∧ (Nr.rup (sA N e) (sB D e) < 8388608 → e = -149) := by
  obtain ⟨a, b, c⟩ := h
  have r := rup_le (sA N e) (sB D e)
  unfold fl at b
  refine ⟨by omega, fun hs => ?_⟩
  rcases c with c | c
  · exact c
  · exfalso
    have := fl_add hD (e - 1) 1 (N := N)
    rw [show e - 1 + (1 : Nat) = e by omega] at this
    unfold fl at this c
    omega
theorem p53 : (2 : Nat) ^ 24 = 16777216 := rfl
theorem far_high {N D : Nat} (hN : 0 < N) (hD : 0 < D) (h : 1100 < (sz N : Int) - (sz D : Int)) {E : Int} (hE : IsE N D E) : wb (Nr.rup (sA N E) (sB D E)) E = 2139095040 := by
  have hg : 104 < E := by
    refine Int.not_le.1 fun hle => ?_
    have := fl_ge (c := 24) (e := E) hN hD (by omega)
    rw [p53] at this
    have := hE.2.1
    omega
  obtain ⟨a, b⟩ := small_E hD hE
  have c : ¬ Nr.rup (sA N E) (sB D E) < 8388608 := fun hh => by have := b hh; omega
  unfold wb
  rw [if_pos (by omega)]
  omega
theorem far_low {N D : Nat} (hD : 0 < D) (h : (sz N : Int) - (sz D : Int) < -1100) {E : Int} (hE : IsE N D E) : wb (Nr.rup (sA N E) (sB D E)) E = 0 := by
  have hg : E = -149 := by
    rcases hE.2.2 with g | g
    · exact g
    · exfalso
      have := fl_lt (N := N) (c := 24) (e := E - 1) hD (by have := hE.1; omega)
      rw [p53] at this
      omega
  subst hg
  have h0 := fl_lt (N := N) (c := 0) (e := -149 - 1) hD (by omega)
  have hr : Nr.rup (sA N (-149)) (sB D (-149)) = 0 := by
    have e := rup_ratio (sB_pos hD (-149)) (sB_pos hD (-149)) (rfl : sA N (-149) * sB D (-149) = sA N (-149) * sB D (-149))
    have h1 : 2 * sA N (-149) < sB D (-149) := by
      have h2 : fl N D (-149 - 1) = 0 := by omega
      unfold fl at h2
      rw [Nat.div_eq_zero_iff] at h2
      rcases h2 with h2 | h2
      · have := sB_pos hD (-149 - 1); omega
      · unfold sA sB at h2 ⊢
        obtain ⟨k, hk⟩ : ∃ k : Nat, (-(-149 : Int)).toNat = k := ⟨_, rfl⟩
        have hk1 : (-(-149 - 1 : Int)).toNat = k + 1 := by omega
        rw [hk1, show ((-149 - 1 : Int)).toNat = 0 by decide, Nat.pow_succ] at h2
        rw [hk, show ((-149 : Int)).toNat = 0 by decide]
        clear hk hk1
        generalize (2 : Nat) ^ k = p at *
        rw [← Nat.mul_assoc] at h2
        omega
    unfold Nr.rup
    have h3 : sA N (-149) / sB D (-149) = 0 := Nat.div_eq_of_lt (by omega)
    have h4 : sA N (-149) % sB D (-149) = sA N (-149) := Nat.mod_eq_of_lt (by omega)
    rw [h3, h4, if_neg (by omega)]
  rw [hr]
  rfl
/-- The program's own exponent and mantissa. -/
theorem main_E {N D : Nat} (hN : 0 < N) (hD : 0 < D) {e1 : Int} (he : e1 = max ((sz N : Int) - (sz D : Int) - 24) (-149) - 2) :
    fl N D e1 < 134217728 ∧ ∃ d : Nat, (d = 2 ∨ d = 3) ∧ max ((sz (fl N D e1) : Int) - 24) 2 = (d : Int) ∧ IsE N D (e1 + d) ∧
      Nr.rup (sA N (e1 + d)) (sB D (e1 + d)) = Nr.rup (if sA N e1 % sB D e1 = 0 then fl N D e1 else fl N D e1 ||| 1) (2 ^ d) := by
  have hround : ∀ d : Nat, (d = 2 ∨ d = 3) → Nr.rup (sA N (e1 + d)) (sB D (e1 + d)) = Nr.rup (if sA N e1 % sB D e1 = 0 then fl N D e1 else fl N D e1 ||| 1) (2 ^ d) := by
    intro d hd
    obtain ⟨p, hp, hp2⟩ : ∃ p, 0 < p ∧ 2 ^ d = 4 * p := by
      rcases hd with rfl | rfl
      · exact ⟨1, by omega, rfl⟩
      · exact ⟨2, by omega, rfl⟩
    rw [rup_add hD, hp2]
    have h := sticky (q := fl N D e1) (b := sB D e1) (r := sA N e1 % sB D e1) hp (Nat.mod_lt _ (sB_pos hD e1))
    have e : fl N D e1 * sB D e1 + sA N e1 % sB D e1 = sA N e1 := Nat.div_add_mod' _ _
    rw [e] at h
    exact h.symm
  have hf : ∀ d : Nat, fl N D (e1 + d) = fl N D e1 / 2 ^ d := fun d => fl_add hD e1 d
  have p56 : (2 : Nat) ^ 27 = 134217728 := rfl
  have p55 : (2 : Nat) ^ 26 = 67108864 := rfl
  have p54 : (2 : Nat) ^ 25 = 33554432 := rfl
  by_cases hc : -149 ≤ (sz N : Int) - (sz D : Int) - 24
  · have he2 : e1 = (sz N : Int) - (sz D : Int) - 26 := by omega
    have g1 := fl_ge (c := 25) (e := e1) hN hD (by omega)
    have g2 := fl_lt (N := N) (c := 27) (e := e1) hD (by omega)
    refine ⟨by omega, ?_⟩
    by_cases h5 : fl N D e1 < 67108864
    · have s1 : sz (fl N D e1) = 26 := sz_of (s := 25) g1 (by omega)
      refine ⟨2, .inl rfl, by rw [s1]; rfl, ⟨by omega, ?_, .inr ?_⟩, hround 2 (.inl rfl)⟩
      · rw [hf]; omega
      · rw [show e1 + (2 : Nat) - 1 = e1 + (1 : Nat) by omega, hf]; omega
    · have s1 : sz (fl N D e1) = 27 := sz_of (s := 26) (by omega) g2
      refine ⟨3, .inr rfl, by rw [s1]; rfl, ⟨by omega, ?_, .inr ?_⟩, hround 3 (.inr rfl)⟩
      · rw [hf]; omega
      · rw [show e1 + (3 : Nat) - 1 = e1 + (2 : Nat) by omega, hf]; omega
  · have he2 : e1 = -151 := by omega
    have g2 := fl_lt (N := N) (c := 26) (e := e1) hD (by omega)
    have s1 : sz (fl N D e1) ≤ 26 := sz_le g2
    refine ⟨by omega, 2, .inl rfl, by omega, ⟨by omega, ?_, .inl (by omega)⟩, hround 2 (.inl rfl)⟩
    rw [hf]; omega
theorem exE {N D : Nat} (hN : 0 < N) (hD : 0 < D) : ∃ E, IsE N D E := by
  obtain ⟨_, d, _, _, h, _⟩ := main_E (e1 := max ((sz N : Int) - (sz D : Int) - 24) (-149) - 2) hN hD rfl
  exact ⟨_, h⟩
theorem isE_scale {g N D : Nat} (hg : 0 < g) (e : Int) : IsE (g * N) (g * D) e ↔ IsE N D e := by
  unfold IsE fl
  simp only [sA_scale, sB_scale, Nat.mul_div_mul_left _ _ hg]
theorem rup_scale {g N D : Nat} (hg : 0 < g) (hD : 0 < D) (e : Int) : Nr.rup (sA (g * N) e) (sB (g * D) e) = Nr.rup (sA N e) (sB D e) := by
  apply rup_ratio (sB_pos (Nat.mul_pos hg hD) e) (sB_pos hD e)
  rw [sA_scale, sB_scale, Nat.mul_assoc, Nat.mul_left_comm]
/-- The bits of the number nearest to a quotient. -/
def NB (N D x : Nat) : Prop := (N = 0 → x = 0) ∧ (0 < N → ∀ E, IsE N D E → x = wb (Nr.rup (sA N E) (sB D E)) E)
theorem NB.same {N D N' D' x : Nat} (h : NB N D x) (hD : 0 < D) (hD' : 0 < D') (he : N * D' = N' * D) : NB N' D' x := by
  refine ⟨fun h0 => h.1 ?_, fun h0 E hE => ?_⟩
  · rw [h0, Nat.zero_mul] at he
    rcases Nat.mul_eq_zero.1 he with c | c
    · exact c
    · omega
  · have hN : 0 < N := by
      rcases Nat.eq_zero_or_pos N with c | c
      · exfalso
        rw [c, Nat.zero_mul] at he
        have : 0 < N' * D := Nat.mul_pos h0 hD
        omega
      · exact c
    have e1 : D' * N = D * N' := by rw [Nat.mul_comm D' N, Nat.mul_comm D N']; exact he
    have e2 : D' * D = D * D' := Nat.mul_comm _ _
    have a := (isE_scale (N := N') (D := D') hD E).2 hE
    rw [← e1, ← e2] at a
    have b := (isE_scale (N := N) (D := D) hD' E).1 a
    rw [h.2 hN E b]
    have q1 := rup_scale (N := N) (D := D) hD' hD E
    have q2 := rup_scale (N := N') (D := D') hD hD' E
    rw [e1, e2, q2] at q1
    rw [q1]
theorem NB.high {N D : Nat} (k : Nat) (hk : 1100 < k) (hD : 0 < D) (h : D * 2 ^ k ≤ N) : NB N D 2139095040 := by
  have hN : 0 < N := Nat.lt_of_lt_of_le (Nat.mul_pos hD (Nat.two_pow_pos _)) h
  refine ⟨fun h0 => by clear h; omega, fun _ E hE => (far_high hN hD ?_ hE).symm⟩
  have a := (sz_ge hD)
  have b := sz_lt N
  have c : 2 ^ (sz D - 1 + k) < 2 ^ sz N := by
    rw [Nat.pow_add]
    exact Nat.lt_of_le_of_lt (Nat.le_trans (Nat.mul_le_mul_right _ a.1) h) b
  have d := two_lt c
  have e := a.2
  clear a b c h
  omega
theorem NB.low {N D : Nat} (k : Nat) (hk : 1100 < k) (hD : 0 < D) (h : N * 2 ^ k ≤ D) : NB N D 0 := by
  refine ⟨fun _ => rfl, fun hN E hE => (far_low hD ?_ hE).symm⟩
  have a := (sz_ge hN)
  have b := sz_lt D
  have c : 2 ^ (sz N - 1 + k) < 2 ^ sz D := by
    rw [Nat.pow_add]
    exact Nat.lt_of_le_of_lt (Nat.le_trans (Nat.mul_le_mul_right _ a.1) h) b
  have d := two_lt c
  have e := a.2
  clear a b c h
  omega
/-- Beyond all numbers, or below. -/
theorem dec_high {S L : Nat} {p : Int} (k : Nat) (hk : 1100 < k) (h1 : 10 ^ (L - 1) ≤ S) (hL : 0 < L) (hp : (k : Int) < (L : Int) + p) : NB (S * 10 ^ p.toNat) (10 ^ (-p).toNat) 2139095040 := by
  apply NB.high k hk (Nat.pow_pos (by omega))
  have a : 10 ^ (-p).toNat * 2 ^ k ≤ 10 ^ (-p).toNat * 10 ^ k := Nat.mul_le_mul_left _ (Nat.pow_le_pow_left (by omega) k)
  have b : 10 ^ (-p).toNat * 10 ^ k ≤ 10 ^ (L - 1) * 10 ^ p.toNat := by
    rw [← Nat.pow_add, ← Nat.pow_add]
    exact Nat.pow_le_pow_right (by omega) (by clear h1 a; omega)
  exact Nat.le_trans a (Nat.le_trans b (Nat.mul_le_mul_right _ h1))
theorem dec_low {S L : Nat} {p : Int} (k : Nat) (hk : 1100 < k) (h1 : S < 10 ^ L) (hp : (L : Int) + p ≤ -(k : Int)) : NB (S * 10 ^ p.toNat) (10 ^ (-p).toNat) 0 := by
  apply NB.low k hk (Nat.pow_pos (by omega))
  have hz : p.toNat = 0 := by clear h1; omega
  rw [hz, Nat.pow_zero, Nat.mul_one]
  have a : S * 2 ^ k ≤ 10 ^ L * 10 ^ k := Nat.mul_le_mul (Nat.le_of_lt h1) (Nat.pow_le_pow_left (by omega) k)
  refine Nat.le_trans a ?_
  rw [← Nat.pow_add]
  exact Nat.pow_le_pow_right (by omega) (by clear h1 a; omega)
/-- The point and the noughts moved. -/
theorem NB.moved {S q : Nat} {P p : Int} {x : Nat} (hp : p = P + (q : Int)) (h : NB (S * 10 ^ p.toNat) (10 ^ (-p).toNat) x) : NB (S * 10 ^ q * 10 ^ P.toNat) (10 ^ (-P).toNat) x := by
  refine h.same (Nat.pow_pos (by omega)) (Nat.pow_pos (by omega)) ?_
  rw [Nat.mul_assoc, Nat.mul_assoc, Nat.mul_assoc, ← Nat.pow_add, ← Nat.pow_add, ← Nat.pow_add]
  rw [show p.toNat + (-P).toNat = q + (P.toNat + (-p).toNat) by omega]
theorem NB.le {N D x : Nat} (h : NB N D x) (hD : 0 < D) : x ≤ 2139095040 := by
  rcases Nat.eq_zero_or_pos N with c | c
  · rw [h.1 c]; omega
  · obtain ⟨E, hE⟩ := exE c hD
    rw [h.2 c E hE]
    exact Nat.min_le_right _ _
end Go.Proofs.YtpdjpjkieafnbaaGreatDoor.Li.Nw
set_option linter.unusedVariables false
set_option linter.unusedSimpArgs false
namespace Go.Proofs.YtpdjpjkieafnbaaGreatDoor.Li.Nw
open Go.RowKit Lb Nr
/-- The format of binary64, as the program has it. -/
def fmtV : Value := .agg #[.int .i64 23, .int .i64 255, .int .i64 (-149)]
set_option maxRecDepth 100000 in
theorem infinity_any (w : World) : Calls Tryz.prog 87 #[fmtV] w fun e w' => e = .returned (.int .u64 2139095040) ∧ Keep w w' := by
  unfold fmtV
  go_enter Tryz.func87, Tryz.ntmps87
  go_wp2
  go_ret
  exact ⟨rfl, (Keep.refl w).alloc _⟩
set_option maxRecDepth 100000 in
set_option maxHeartbeats 400000 in
theorem bits_any (m : Nat) (e : Int) (hm : m ≤ 16777216) (he : -149 ≤ e ∧ e ≤ 2000) (w : World) : Calls Tryz.prog 115 #[fmtV, .int .u64 (m : Nat), .int .i64 e] w fun en w' => en = .returned (.int .u64 (wb m e : Nat)) ∧ Keep w w' := by
  have hI := infinity_any
  have HW : Hid (wb m e = min (if 8388608 ≤ m then m + (e + 149).toNat * 8388608 else m) 2139095040) := rfl
  generalize wb m e = W at *
  unfold fmtV at *
  by_cases h : 8388608 ≤ m
  · have d1 : decide ((8388608 : Int) ≤ (m : Int)) = true := decide_eq_true (by omega)
    have w1 : wrap64 (e + 149) = e + 149 := IntWalk.wrap64_in _ (by omega)
    obtain ⟨k, hk⟩ : ∃ k : Nat, e + 149 = k := ⟨(e + 149).toNat, by omega⟩
    have w2 : IntKind.u64.wrap (e + 149) = (k : Int) := by rw [hk, IntKind.wrap_u64]; omega
    have w3 : IntKind.u64.wrap ((k : Int) * 8388608) = (k : Int) * 8388608 := by rw [IntKind.wrap_u64]; omega
    have w4 : IntKind.u64.wrap ((m : Int) + (k : Int) * 8388608) = (m : Int) + (k : Int) * 8388608 := by rw [IntKind.wrap_u64]; omega
    have v := HW.out
    rw [if_pos h, show (e + 149).toNat = k by omega] at v
    clear HW h
    have HV : Hid _ := v
    clear v hk
    go_enter Tryz.func115, Tryz.ntmps115
    go_wp2_with fail
    refine (hI _).mono ?_
    rintro en w2' ⟨rfl, k2⟩
    go_wp2_with fail
    go_ret
    exact ⟨ret_int (by have := HV.out; omega), ((Keep.refl w).alloc _).trans k2⟩
  · have d1 : decide ((8388608 : Int) ≤ (m : Int)) = false := decide_eq_false (by omega)
    have v := HW.out
    rw [if_neg h] at v
    have HV : Hid _ := v
    clear HW v h
    go_enter Tryz.func115, Tryz.ntmps115
    go_wp2_with fail
    refine (hI _).mono ?_
    rintro en w2' ⟨rfl, k2⟩
    go_wp2_with fail
    go_ret
    exact ⟨ret_int (by have := HV.out; omega), ((Keep.refl w).alloc _).trans k2⟩
set_option maxRecDepth 100000 in
set_option maxHeartbeats 1000000 in
theorem nearest_any (v1 v2 : Value) (N D K : Nat) (w : World) (h1 : Lv w v1 N K) (h2 : Lv w v2 D K) (hK : K ≤ 35184372087850) (hN : 0 < N) (hD : 0 < D) :
    Calls Tryz.prog 71 #[fmtV, v1, v2] w fun e w' => ∃ x : Nat, e = .returned (.int .u64 (x : Nat)) ∧ (∀ E, IsE N D E → x = wb (Nr.rup (sA N E) (sB D E)) E) ∧ Keep w w' := by
  have hI := infinity_any
  have L1 := fun wx (kx : Keep w wx) => Len_lv v1 N K wx (h1.keep kx) (by omega)
  have L2 := fun wx (kx : Keep w wx) => Len_lv v2 D K wx (h2.keep kx) (by omega)
  have hs1 : 0 < sz N := (sz_ge hN).2
  have hbN : sz N ≤ 32 * K := sz_le (by rw [← word_pow]; exact h1.lt)
  have hbD : sz D ≤ 32 * K := sz_le (by rw [← word_pow]; exact h2.lt)
  have hz : ((sz N : Int) == 0) = false := by rw [beq_eq_false_iff_ne]; omega
  obtain ⟨A, hA⟩ : ∃ A : Int, (sz N : Int) - (sz D : Int) = A := ⟨_, rfl⟩
  have hw : wrap64 ((sz N : Int) - (sz D : Int)) = A := by rw [hA]; exact IntWalk.wrap64_in _ (by omega)
  have HH := @far_high N D hN hD
  have HL := @far_low N D hD
  have HM := @main_E N D hN hD
  rw [hA] at HH HL HM
  replace HH : Hid _ := HH
  replace HL : Hid _ := HL
  unfold fmtV at *
  obtain ⟨w0, hw0, k0, tb⟩ : ∃ w0, w.alloc (Obj.cells #[.int .i64 23, .int .i64 255, .int .i64 (-149)] 85) = w0 ∧ Keep w w0 ∧ w0.heap[w.heap.size]? = some (Obj.cells #[.int .i64 23, .int .i64 255, .int .i64 (-149)] 85 (0, 0)) := ⟨_, rfl, (Keep.refl w).alloc _, heap_alloc_new w _⟩
  have c0 := cell_of_row _ _ 0 _ 85 (0, 0) tb
  have c1 := cell_of_row _ _ 1 _ 85 (0, 0) tb
  have c2 := cell_of_row _ _ 2 _ 85 (0, 0) tb
  simp only [List.getElem?_toArray, List.getElem?_cons_zero, List.getElem?_cons_succ] at c0 c1 c2
  by_cases q1 : A < -1100
  · have d1 : decide (A < -1100) = true := decide_eq_true q1
    go_enter Tryz.func71, Tryz.ntmps71
    go_wp2_with fail
    refine (L1 _ k0).mono ?_
    rintro e wx ⟨rfl, rfl⟩
    go_wp2_with fail
    refine (L2 _ k0).mono ?_
    rintro e wx ⟨rfl, rfl⟩
    go_wp2_with fail
    refine (L1 _ k0).mono ?_
    rintro e wx ⟨rfl, rfl⟩
    go_wp2_with fail
    go_ret
    exact ⟨0, rfl, fun E hE => (HL.out q1 hE).symm, k0⟩
  · have d1 : decide (A < -1100) = false := decide_eq_false q1
    by_cases q2 : 1100 < A
    · have d2 : decide (1100 < A) = true := decide_eq_true q2
      go_enter Tryz.func71, Tryz.ntmps71
      go_wp2_with fail
      refine (L1 _ k0).mono ?_
      rintro e wx ⟨rfl, rfl⟩
      go_wp2_with fail
      refine (L2 _ k0).mono ?_
      rintro e wx ⟨rfl, rfl⟩
      go_wp2_with fail
      refine (L1 _ k0).mono ?_
      rintro e wx ⟨rfl, rfl⟩
      go_wp2_with fail
      refine (hI _).mono ?_
      rintro e w9 ⟨rfl, k9⟩
      go_wp2_with fail
      go_ret
      exact ⟨_, rfl, fun E hE => (HH.out q2 hE).symm, k0.trans k9⟩
    · have d2 : decide (1100 < A) = false := decide_eq_false q2
      clear HH HL
      have w1 : wrap64 (A - 23) = A - 23 := IntWalk.wrap64_in _ (by omega)
      have w2 : wrap64 (A - 23 - 1) = A - 23 - 1 := IntWalk.wrap64_in _ (by omega)
      obtain ⟨X, hX⟩ : ∃ X : Int, max (A - 23 - 1) (-149) = X := ⟨_, rfl⟩
      have hXb : -149 ≤ X ∧ X ≤ 1100 := by omega
      have w3 : wrap64 (X - 2) = X - 2 := IntWalk.wrap64_in _ (by omega)
      obtain ⟨hq, d, hd, hdm, hE, hR⟩ := HM (e1 := X - 2) (by omega)
      have w4 : wrap64 (-(X - 2)) = -(X - 2) := IntWalk.wrap64_in _ (by omega)
      have hSc := fun wx (kx : Keep w wx) => scaled_lv v1 v2 N D K (-(X - 2)) wx (h1.keep kx) (h2.keep kx) (by omega) (by omega)
      have e1 : N * 2 ^ (-(X - 2)).toNat = sA N (X - 2) := rfl
      have e2 : D * 2 ^ (- -(X - 2)).toNat = sB D (X - 2) := by rw [Int.neg_neg]; rfl
      rw [e1, e2] at hSc
      have hB := sB_pos hD (X - 2)
      have hDM := fun a1 a2 wx g1 g2 => DivMod_lv a1 a2 (sA N (X - 2)) (sB D (X - 2)) (K + 100) wx g1 g2 (by omega) hB
      have e3 : sA N (X - 2) / sB D (X - 2) = fl N D (X - 2) := rfl
      rw [e3] at hDM
      have HE1 : Hid (∀ E, IsE N D E → E = X - 2 + d) := fun E hE' => isE_one hD hE' hE
      obtain ⟨q, hqe⟩ : ∃ q, fl N D (X - 2) = q := ⟨_, rfl⟩
      obtain ⟨r, hre⟩ : ∃ r, sA N (X - 2) % sB D (X - 2) = r := ⟨_, rfl⟩
      have hM53 := (small_E hD hE).1
      rw [hqe, hre] at hR
      rw [hqe] at hq hdm hDM
      rw [hre] at hDM
      rw [hR] at hM53
      have hSm := fun v wx h => Small_lv v q (K + 100) wx h (by omega) (by omega)
      have hLr := fun v wx h => Len_lv v r (K + 100) wx h (by omega)
      have hLq := fun v wx h => Len_lv v q (K + 100) wx h (by omega)
      obtain ⟨n, hn⟩ : ∃ n, (if r = 0 then q else q ||| 1) = n := ⟨_, rfl⟩
      have hnb : n < 1152921504606846976 := by
        rw [← hn]
        split
        · omega
        · rw [or_one]; omega
      rw [hn] at hR hM53
      have hWb := fun wx => withoutBits_any n d hd hnb wx
      have hdb : (2 : Int) ≤ (d : Int) ∧ (d : Int) ≤ 3 := by omega
      have hBi := fun wx => bits_any (Nr.rup n (2 ^ d)) (X - 2 + d) hM53 (by omega) wx
      unfold fmtV at hBi
      have w5 : wrap64 (X - 2 + (d : Int)) = X - 2 + (d : Int) := IntWalk.wrap64_in _ (by omega)
      have w6 : wrap64 ((sz q : Int) - 23) = (sz q : Int) - 23 := by have := sz_le (n := q) (k := 27) (by omega); exact IntWalk.wrap64_in _ (by omega)
      have w7 : wrap64 ((sz q : Int) - 23 - 1) = (sz q : Int) - 23 - 1 := by
        have := sz_le (n := q) (k := 27) (by omega)
        exact IntWalk.wrap64_in _ (by omega)
      have ho := or1 q (by omega)
      replace hdm : max ((sz q : Int) - 23 - 1) 2 = (d : Int) := by omega
      have hr0 : (r = 0 ∧ n = q ∧ decide ((0 : Int) < (sz r : Int)) = false) ∨ (r ≠ 0 ∧ n = (q ||| 1) ∧ decide ((0 : Int) < (sz r : Int)) = true) := by
        by_cases g : r = 0
        · rw [if_pos g] at hn
          refine .inl ⟨g, hn.symm, decide_eq_false ?_⟩
          rw [g]
          simp [sz]
        · rw [if_neg g] at hn
          refine .inr ⟨g, hn.symm, decide_eq_true ?_⟩
          have := (sz_ge (show 0 < r by omega)).2
          omega
      have HF : Hid (Nr.rup (sA N (X - 2 + d)) (sB D (X - 2 + d)) = Nr.rup n (2 ^ d)) := hR
      obtain ⟨M, hM⟩ : ∃ M, Nr.rup n (2 ^ d) = M := ⟨_, rfl⟩
      rw [hM] at HF hBi hWb
      clear HM hd hq hE hR e1 e2 e3 hB hqe hre hM53 hn hnb hM hs1 hbN hbD hA hI
      go_enter Tryz.func71, Tryz.ntmps71
      go_wp2_with fail
      refine (L1 _ k0).mono ?_
      rintro e wx ⟨rfl, rfl⟩
      go_wp2_with fail
      refine (L2 _ k0).mono ?_
      rintro e wx ⟨rfl, rfl⟩
      go_wp2_with fail
      refine (L1 _ k0).mono ?_
      rintro e wx ⟨rfl, rfl⟩
      go_wp2_with fail
      refine (hSc _ k0).mono ?_
      rintro e wa ⟨a1, a2, rfl, g1, g2, k1⟩
      go_wp2_with fail
      refine (hDM a1 a2 _ g1 g2).mono ?_
      rintro e wb2 ⟨vq, vr, rfl, nq1, nr1, k2⟩
      go_wp2_with fail
      refine (hSm vq _ nq1).mono ?_
      rintro e wx ⟨bb, rfl, rfl⟩
      go_wp2_with fail
      refine (hLr vr _ nr1).mono ?_
      rintro e wy ⟨rfl, rfl⟩
      have kk := (k0.trans k1).trans k2
      have t2 := ((k1.trans k2).block w.heap.size (Array.getElem?_eq_some_iff.1 tb).1).trans tb
      clear c0 c1 c2
      have c0 := cell_of_row _ _ 0 _ 85 (0, 0) t2
      have c1 := cell_of_row _ _ 1 _ 85 (0, 0) t2
      have c2 := cell_of_row _ _ 2 _ 85 (0, 0) t2
      simp only [List.getElem?_toArray, List.getElem?_cons_zero, List.getElem?_cons_succ] at c0 c1 c2
      have hLq' := fun wz (kx : Keep wy wz) => hLq vq wz (nq1.keep kx)
      clear L1 L2 hSc hDM hSm hLr g1 g2 h1 h2 hLq
      rcases hr0 with ⟨rfl, rfl, hr0⟩ | ⟨hrn, hne, hr0⟩
      · go_upto_region 12 with fail
        go_cut [14] from 67 to 73 (fun s14 wx => s14 = .int .i64 (d : Nat) ∧ Keep wy wx)
        case first =>
          go_region_with (go_at_call 70; refine (hLq' _ ?_).mono ?_; (first | exact Keep.refl _ | exact (Keep.refl _).drew | exact (Keep.refl _).drew.drew); rintro e wz ⟨rfl, rfl⟩)
          all_goals
            go_wp2_with fail
            go_meet
            exact ⟨by rw [IntWalk.i64_left, IntWalk.i64_left, w6, w7, hdm], by first | exact Keep.refl _ | exact (Keep.refl _).drew | exact (Keep.refl _).drew.drew | exact (Keep.refl _).drew.drew.drew⟩
        case rest =>
          obtain ⟨rfl, kc⟩ := hcut
          have s0 := Keep.cell kc c0
          have s1 := Keep.cell kc c1
          have s2 := Keep.cell kc c2
          clear hLq' c0 c1 c2 t2 tb nq1 nr1
          go_upto_region 13 with fail
          obtain ⟨g, hg⟩ : ∃ g, w.heap.size = g := ⟨_, rfl⟩
          rw [hg] at s0 s1 s2
          rw [hg]
          have w5' : IntKind.i64.wrap (X - 2 + (d : Int)) = X - 2 + (d : Int) := by rw [IntWalk.i64_left]; exact w5
          clear hw w1 w2 w3 w4 w6 w7 hdm ho hr0 d1 d2 hz hdb
          go_region_with (first
            | (go_at_call 116; refine (hWb _).mono ?_; rintro e wA ⟨rfl, kA⟩; have kA' := kA.keep; have p0 := Keep.cell kA' s0; have p1 := Keep.cell kA' s1; have p2 := Keep.cell kA' s2)
            | (go_at_call 115; refine (hBi _).mono ?_; rintro e wB ⟨rfl, kB⟩))
          all_goals
            go_wp2_with fail
            go_ret
            refine ⟨_, rfl, fun E hE => ?_, ?_⟩
            · rw [HE1.out E hE, HF.out]
            · have k9 := kk.trans kc
              first
                | exact ((k9.drew.trans kA').trans kB)
                | exact ((k9.drew.trans kA').trans kB).drew
                | exact ((k9.drew.trans kA').drew.trans kB)
                | exact ((k9.drew.trans kA').drew.trans kB).drew
                | exact ((k9.drew.drew.trans kA').trans kB)
                | exact ((k9.drew.drew.trans kA').trans kB).drew
                | exact ((k9.drew.drew.trans kA').drew.trans kB)
                | exact ((k9.trans kA').drew.trans kB)
                | exact ((k9.drew.trans kA').drew.drew.trans kB)
                | exact ((k9.trans kA').trans kB)
      · subst hne
        have hsz : 0 < sz r := (sz_ge (show 0 < r by omega)).2
        go_upto_region 12 with fail
        go_cut [14] from 67 to 73 (fun s14 wx => s14 = .int .i64 (d : Nat) ∧ Keep wy wx)
        case first =>
          go_region_with (go_at_call 70; refine (hLq' _ ?_).mono ?_; (first | exact Keep.refl _ | exact (Keep.refl _).drew | exact (Keep.refl _).drew.drew); rintro e wz ⟨rfl, rfl⟩)
          all_goals
            go_wp2_with fail
            go_meet
            exact ⟨by rw [IntWalk.i64_left, IntWalk.i64_left, w6, w7, hdm], by first | exact Keep.refl _ | exact (Keep.refl _).drew | exact (Keep.refl _).drew.drew | exact (Keep.refl _).drew.drew.drew⟩
        case rest =>
          obtain ⟨rfl, kc⟩ := hcut
          have s0 := Keep.cell kc c0
          have s1 := Keep.cell kc c1
          have s2 := Keep.cell kc c2
          clear hLq' c0 c1 c2 t2 tb nq1 nr1
          go_upto_region 13 with fail
          obtain ⟨g, hg⟩ : ∃ g, w.heap.size = g := ⟨_, rfl⟩
          rw [hg] at s0 s1 s2
          rw [hg]
          have w5' : IntKind.i64.wrap (X - 2 + (d : Int)) = X - 2 + (d : Int) := by rw [IntWalk.i64_left]; exact w5
          clear hw w1 w2 w3 w4 w6 w7 hdm ho hr0 d1 d2 hz hdb
          go_region_with (first
            | (go_at_call 116; refine (hWb _).mono ?_; rintro e wA ⟨rfl, kA⟩; have kA' := kA.keep; have p0 := Keep.cell kA' s0; have p1 := Keep.cell kA' s1; have p2 := Keep.cell kA' s2)
            | (go_at_call 115; refine (hBi _).mono ?_; rintro e wB ⟨rfl, kB⟩))
          all_goals
            go_wp2_with fail
            go_ret
            refine ⟨_, rfl, fun E hE => ?_, ?_⟩
            · rw [HE1.out E hE, HF.out]
            · have k9 := kk.trans kc
              first
                | exact ((k9.drew.trans kA').trans kB)
                | exact ((k9.drew.trans kA').trans kB).drew
                | exact ((k9.drew.trans kA').drew.trans kB)
                | exact ((k9.drew.trans kA').drew.trans kB).drew
                | exact ((k9.drew.drew.trans kA').trans kB)
                | exact ((k9.drew.drew.trans kA').trans kB).drew
                | exact ((k9.drew.drew.trans kA').drew.trans kB)
                | exact ((k9.trans kA').drew.trans kB)
                | exact ((k9.drew.trans kA').drew.drew.trans kB)
                | exact ((k9.trans kA').trans kB)
end Go.Proofs.YtpdjpjkieafnbaaGreatDoor.Li.Nw
set_option linter.unusedVariables false
set_option linter.unusedSimpArgs false
namespace Go.Proofs.YtpdjpjkieafnbaaGreatDoor.Li.Nw
open Go.RowKit Lb Nr
/-- The format's variable. -/
def Fm (w : World) (g : Nat) : Prop := w.heap[g]? = some (.cells #[.int .i64 23, .int .i64 255, .int .i64 (-149)] 85 (0, 0))
theorem Fm.keep {w w' : World} {g : Nat} (h : Fm w g) (k : Keep w w') : Fm w' g := by
  unfold Fm; rw [k.block g (Array.getElem?_eq_some_iff.1 h).1]; exact h
theorem Fm.new (w : World) : Fm (w.alloc (.cells #[.int .i64 23, .int .i64 255, .int .i64 (-149)] 85)) w.heap.size := heap_alloc_new w _
theorem Fm.cells {w : World} {g : Nat} (h : Fm w g) : w.cell? ⟨g, 0, none⟩ = some (.int .i64 23) ∧ w.cell? ⟨g, 1, none⟩ = some (.int .i64 255) ∧ w.cell? ⟨g, 2, none⟩ = some (.int .i64 (-149)) := by
  refine ⟨?_, ?_, ?_⟩ <;> rw [cell_of_row w g _ _ 85 (0, 0) h] <;> rfl
set_option maxRecDepth 100000 in
set_option maxHeartbeats 2000000 in
/-- The bits of a decimal. -/
theorem amount_dec (ng pn : Bool) (wh pt ds : List UInt8) (hd : allD (wh ++ pt)) (hds : allD ds) (hl : (wh ++ pt).length ≤ 4096) (hl2 : ds.length ≤ 4096) (w : World) :
    Calls Tryz.prog 90 #[.agg #[.int .i64 23, .int .i64 255, .int .i64 (-149)], .agg #[.bool ng, .bool false, .string ⟨wh.toArray⟩, .string ⟨pt.toArray⟩, .bool pn, .string ⟨ds.toArray⟩]] w fun e w' =>
      ∃ x : Nat, e = .returned (.int .u64 (x : Nat)) ∧ NB (nat (wh ++ pt) * 10 ^ (pwN pn ds - (pt.length : Int)).toNat) (10 ^ (-(pwN pn ds - (pt.length : Int))).toNat) x ∧ Keep w w' := by
  have hP := fun wx => powerNumber_any ng false pn wh pt ds hds hl2 wx
  have hpin := pwN_in pn ds
  obtain ⟨q, g1, g2, g3, g4, g5, g6⟩ := dec_parts hd
  have hwl : wh.length ≤ 4096 := by rw [List.length_append] at hl; omega
  have hptl : pt.length ≤ 4096 := by rw [List.length_append] at hl; omega
  have htl : (tl0 (wh ++ pt)).length ≤ 4096 := Nat.le_trans (tl0_len _) hl
  have hTL := fun wx => trl_any (wh ++ pt) wx
  have hTR := fun wx => trr_any (tl0 (wh ++ pt)) wx (by omega)
  have hcat := catB wh pt
  have hcs : (ByteArray.mk wh.toArray ++ ByteArray.mk pt.toArray).size ≤ 4096 := by rw [hcat, sz_mk]; exact hl
  have hNat := fun wx (h0 : tr0 (tl0 (wh ++ pt)) ≠ []) => natural_dec ng pn wh pt ds (tr0 (tl0 (wh ++ pt))) wx g5 h0 (by omega)
  have hBP := fun (n : Nat) wx (hn : n ≤ 16000) => basePower_dec ng pn wh pt ds n wx hn
  obtain ⟨S, hS⟩ : ∃ S, nat (tr0 (tl0 (wh ++ pt))) = S := ⟨_, rfl⟩
  obtain ⟨N, hN⟩ : ∃ N, nat (wh ++ pt) = N := ⟨_, rfl⟩
  obtain ⟨D, hD⟩ : ∃ D, wh ++ pt = D := ⟨_, rfl⟩
  obtain ⟨G, hG⟩ : ∃ G, tl0 D = G := ⟨_, rfl⟩
  obtain ⟨H, hH⟩ : ∃ H, tr0 G = H := ⟨_, rfl⟩
  rw [hN] at g2 g3 ⊢
  rw [hD] at g1 g2 g3 g4 g5 g6 htl hTL hTR hcat hNat hS
  rw [hG] at g1 g2 g3 g4 g5 g6 htl hTL hTR hNat hS
  rw [hH] at g1 g2 g3 g4 g5 g6 hTR hNat hS
  rw [hS] at g2 g4 g6 hNat
  obtain ⟨L, hL⟩ : ∃ L, H.length = L := ⟨_, rfl⟩
  obtain ⟨gl, hgl⟩ : ∃ gl, G.length = gl := ⟨_, rfl⟩
  obtain ⟨pl, hpl⟩ : ∃ pl, pt.length = pl := ⟨_, rfl⟩
  obtain ⟨V, hV⟩ : ∃ V, pwN pn ds = V := ⟨_, rfl⟩
  have z1 : (ByteArray.mk H.toArray).size = L := by rw [sz_mk]; exact hL
  have z2 : (ByteArray.mk G.toArray).size = gl := by rw [sz_mk]; exact hgl
  have z3 : (ByteArray.mk pt.toArray).size = pl := by rw [sz_mk]; exact hpl
  rw [hV] at hP hpin ⊢
  rw [hL, hgl] at g1
  rw [hL] at g4 g6
  rw [hgl] at htl
  rw [hpl] at hptl ⊢
  clear hN hD hG hH hS hL hgl hpl hV hd hl g5 hds
  have b1 := hpin.1
  have b2 := hpin.2
  clear hpin
  have HG2 : Hid (N = S * 10 ^ q) := g2
  have HG3 : Hid (H = [] → N = 0) := g3
  have HG4 : Hid (H ≠ [] → 0 < S ∧ 10 ^ (L - 1) ≤ S) := g4
  have HG6 : Hid (S < 10 ^ L) := g6
  have HG1 : Hid (gl = L + q) := g1
  have hL4 : L ≤ gl := by omega
  clear g1 g2 g3 g4 g6
  go_enter Tryz.func90, Tryz.ntmps90
  go_upto_region 5 with (go_at_call 136; refine (hTL _).mono ?_; rintro e wz ⟨rfl, hz⟩; rw [hz]; clear hz)
  go_region_held3 (fun w' => w'.cell? ⟨w.heap.size + 1, 0, none⟩ = some (.bool ng) ∧ w'.cell? ⟨w.heap.size + 1, 1, none⟩ = some (.bool false) ∧ w'.cell? ⟨w.heap.size + 1, 2, none⟩ = some (.string ⟨wh.toArray⟩) ∧ w'.cell? ⟨w.heap.size + 1, 3, none⟩ = some (.string ⟨pt.toArray⟩) ∧ w'.cell? ⟨w.heap.size + 1, 4, none⟩ = some (.bool pn) ∧ w'.cell? ⟨w.heap.size + 1, 5, none⟩ = some (.string ⟨ds.toArray⟩)) (go_keep) (first | (go_at_call 137; refine (hP _).mono ?_; rintro e w2 ⟨rfl, o, p, rfl⟩))
  go_simp
  go_upto_region 9 with (go_at_call 110; refine (hTR _).mono ?_; rintro e wz ⟨rfl, hz⟩; rw [hz]; clear hz)
  have KA : Keep w (((((w.alloc (.cells #[.int .i64 23, .int .i64 255, .int .i64 (-149)] 85)).alloc (.cells #[.bool ng, .bool false, .string ⟨wh.toArray⟩, .string ⟨pt.toArray⟩, .bool pn, .string ⟨ds.toArray⟩] 129)).alloc o).alloc (.stringIter ⟨ds.toArray⟩ p)).drew) := (((((Keep.refl w).alloc _).alloc _).alloc o).alloc _).drew
  have FA : ∀ wx, Keep (((((w.alloc (.cells #[.int .i64 23, .int .i64 255, .int .i64 (-149)] 85)).alloc (.cells #[.bool ng, .bool false, .string ⟨wh.toArray⟩, .string ⟨pt.toArray⟩, .bool pn, .string ⟨ds.toArray⟩] 129)).alloc o).alloc (.stringIter ⟨ds.toArray⟩ p)).drew) wx → Fm wx w.heap.size ∧ Sp wx (w.heap.size + 1) #[.bool ng, .bool false, .string ⟨wh.toArray⟩, .string ⟨pt.toArray⟩, .bool pn, .string ⟨ds.toArray⟩] := by
    intro wx kx
    refine ⟨(Fm.new w).keep (((((Keep.refl _).alloc _).alloc o).alloc _).drew.trans kx), ?_⟩
    have := Sp.new (w.alloc (.cells #[.int .i64 23, .int .i64 255, .int .i64 (-149)] 85)) #[.bool ng, .bool false, .string ⟨wh.toArray⟩, .string ⟨pt.toArray⟩, .bool pn, .string ⟨ds.toArray⟩]
    rw [show (w.alloc (.cells #[.int .i64 23, .int .i64 255, .int .i64 (-149)] 85)).heap.size = w.heap.size + 1 by simp] at this
    exact this.keep ((((Keep.refl _).alloc o).alloc _).drew.trans kx)
  generalize ((((w.alloc (.cells #[.int .i64 23, .int .i64 255, .int .i64 (-149)] 85)).alloc (.cells #[.bool ng, .bool false, .string ⟨wh.toArray⟩, .string ⟨pt.toArray⟩, .bool pn, .string ⟨ds.toArray⟩] 129)).alloc o).alloc (.stringIter ⟨ds.toArray⟩ p)).drew = wA at KA FA ⊢
  have HKA : Hid (Keep w wA) := KA
  have HFA : Hid (∀ wx, Keep wA wx → Fm wx w.heap.size ∧ Sp wx (w.heap.size + 1) #[.bool ng, .bool false, .string ⟨wh.toArray⟩, .string ⟨pt.toArray⟩, .bool pn, .string ⟨ds.toArray⟩]) := FA
  clear KA FA hTL hTR hP
  obtain ⟨P, hP1⟩ : ∃ P : Int, V - (pl : Int) + ((gl : Int) - (L : Int)) = P := ⟨_, rfl⟩
  rw [hP1]
  have HP1 : Hid (P = V - (pl : Int) + (q : Int)) := by
    unfold Hid
    have := HG1.out
    omega
  have bP : -1100000 ≤ P ∧ P ≤ 1100000 := by omega
  have bP1 := bP.1
  have bP2 := bP.2
  clear bP hP1
  have fin : ∀ x, NB (S * 10 ^ P.toNat) (10 ^ (-P).toNat) x → NB (N * 10 ^ (V - (pl : Int)).toNat) (10 ^ (-(V - (pl : Int))).toNat) x := by
    intro x h
    rw [HG2.out]
    exact NB.moved HP1.out h
  by_cases c0 : H = []
  · have e0 : H.isEmpty = true := by rw [c0]; rfl
    have hz : NB (N * 10 ^ (V - (pl : Int)).toNat) (10 ^ (-(V - (pl : Int))).toNat) 0 := by
      rw [HG3.out c0, Nat.zero_mul]
      exact ⟨fun _ => rfl, fun h => absurd h (by omega)⟩
    have HZ : Hid (NB (N * 10 ^ (V - (pl : Int)).toNat) (10 ^ (-(V - (pl : Int))).toNat) 0) := hz
    clear c0 hz fin
    go_wp2_with fail
    go_ret
    exact ⟨0, rfl, HZ.out, HKA.out⟩
  have e0 : H.isEmpty = false := by simpa using c0
  obtain ⟨s0, s1⟩ := HG4.out c0
  have hL0 : Hid (0 < L) := by
    rw [← z1, sz_mk]
    exact List.length_pos_iff.2 c0
  have hNat' := fun wx => hNat wx c0
  have S0 : Hid (0 < S) := s0
  have S1 : Hid (10 ^ (L - 1) ≤ S) := s1
  have Fin : Hid (∀ x, NB (S * 10 ^ P.toNat) (10 ^ (-P).toNat) x → NB (N * 10 ^ (V - (pl : Int)).toNat) (10 ^ (-(V - (pl : Int))).toNat) x) := fin
  clear c0 s0 s1 hNat fin
  by_cases c1 : (L : Int) + P < -2000
  · have e1 : decide ((L : Int) + P < -2000) = true := decide_eq_true c1
    have HZ : Hid (NB (N * 10 ^ (V - (pl : Int)).toNat) (10 ^ (-(V - (pl : Int))).toNat) 0) := Fin.out 0 (dec_low 2000 (by omega) HG6.out (by omega))
    clear c1
    go_wp2_with fail
    go_ret
    exact ⟨0, rfl, HZ.out, HKA.out⟩
  have e1 : decide ((L : Int) + P < -2000) = false := decide_eq_false c1
  by_cases c2 : 2000 < (L : Int) + P
  · have e2 : decide (2000 < (L : Int) + P) = true := decide_eq_true c2
    have HZ : Hid (NB (N * 10 ^ (V - (pl : Int)).toNat) (10 ^ (-(V - (pl : Int))).toNat) 2139095040) := Fin.out _ (dec_high 2000 (by omega) S1.out hL0.out (by omega))
    obtain ⟨f0, f1, f2⟩ := (HFA.out _ (Keep.refl _)).1.cells
    have hI := fun wx => infinity_any wx
    unfold fmtV at hI
    clear c1 c2
    go_wp2_with fail
    refine (hI _).mono ?_
    rintro e w3 ⟨rfl, k3⟩
    go_wp2_with fail
    go_ret
    exact ⟨_, rfl, HZ.out, HKA.out.trans k3⟩
  have e2 : decide (2000 < (L : Int) + P) = false := decide_eq_false c2
  obtain ⟨hf, hsp⟩ := HFA.out _ (Keep.refl _)
  obtain ⟨f0, f1, f2⟩ := hf.cells
  obtain ⟨t0, t1, t2, t3, t4, t5⟩ := hsp.six
  clear hf hsp
  have hNr := fun v1 v2 A B wx h1 h2 h3 h4 => nearest_any v1 v2 A B 2001 wx h1 h2 (by omega) h3 h4
  unfold fmtV at hNr
  by_cases c3 : P < 0
  · have e3 : decide (P < 0) = true := decide_eq_true c3
    obtain ⟨n, hn⟩ : ∃ n : Nat, -P = (n : Int) := ⟨(-P).toNat, by omega⟩
    have hng : IntKind.i64.wrap (-P) = (n : Int) := by rw [IntWalk.i64_left, hn]; exact IntWalk.wrap64_in _ (by omega)
    have hng2 : wrap64 (-P) = (n : Int) := by rw [hn]; exact IntWalk.wrap64_in _ (by omega)
    have hBP' := fun wx => hBP n wx (by omega)
    have HM : Hid (P.toNat = 0 ∧ (-P).toNat = n) := by unfold Hid; omega
    clear c1 c2 c3 hn hBP
    go_upto_region 14 with fail
    go_region_held3 (fun w' => w'.cell? ⟨w.heap.size, 0, none⟩ = some (.int .i64 23) ∧ w'.cell? ⟨w.heap.size, 1, none⟩ = some (.int .i64 255) ∧ w'.cell? ⟨w.heap.size, 2, none⟩ = some (.int .i64 (-149)) ∧ w'.cell? ⟨w.heap.size + 1, 0, none⟩ = some (.bool ng) ∧ w'.cell? ⟨w.heap.size + 1, 1, none⟩ = some (.bool false) ∧ w'.cell? ⟨w.heap.size + 1, 2, none⟩ = some (.string ⟨wh.toArray⟩) ∧ w'.cell? ⟨w.heap.size + 1, 3, none⟩ = some (.string ⟨pt.toArray⟩) ∧ w'.cell? ⟨w.heap.size + 1, 4, none⟩ = some (.bool pn) ∧ w'.cell? ⟨w.heap.size + 1, 5, none⟩ = some (.string ⟨ds.toArray⟩)) (go_keep) (first
      | (go_at_call 138; refine (hNat' _).mono ?_; rintro e w3 ⟨v, rfl, hv, k3⟩; have K3 : Hid (Keep wA w3) := (Keep.refl wA).drew.trans k3; have HV : Hid (Lv w3 v S 2001) := hv; clear hv k3; obtain ⟨hf, hsp⟩ := HFA.out _ K3.out; obtain ⟨f0, f1, f2⟩ := hf.cells; obtain ⟨t0, t1, t2, t3, t4, t5⟩ := hsp.six; clear hf hsp)
      | (go_at_call 139; refine (hBP' _).mono ?_; rintro e w4 ⟨u, rfl, hu, k4⟩; have K4 : Hid (Keep wA w4) := K3.out.trans k4; have HV4 : Hid (Lv w4 v S 2001) := HV.out.keep k4; have HU : Hid (Lv w4 u (10 ^ n) 2001) := hu; clear hu k4; obtain ⟨hf, hsp⟩ := HFA.out _ K4.out; obtain ⟨f0, f1, f2⟩ := hf.cells; obtain ⟨t0, t1, t2, t3, t4, t5⟩ := hsp.six; clear hf hsp)
      | (go_at_call 71; refine (hNr v u S (10 ^ n) _ HV4.out HU.out S0.out (Nat.pow_pos (by omega))).mono ?_; rintro e w5 ⟨x, rfl, hx, k5⟩; have K5 : Hid (Keep wA w5) := K4.out.trans k5; have HX : Hid (∀ E, IsE S (10 ^ n) E → x = wb (Nr.rup (sA S E) (sB (10 ^ n) E)) E) := hx; clear hx k5; obtain ⟨hf, hsp⟩ := HFA.out _ K5.out; obtain ⟨f0, f1, f2⟩ := hf.cells; obtain ⟨t0, t1, t2, t3, t4, t5⟩ := hsp.six; clear hf hsp))
    go_simp
    go_wp2_with fail
    go_ret
    refine ⟨x, rfl, Fin.out x ?_, HKA.out.trans K5.out⟩
    rw [HM.out.1, HM.out.2, Nat.pow_zero, Nat.mul_one]
    have := S0.out
    exact ⟨fun h => by omega, fun _ => HX.out⟩
  · have e3 : decide (P < 0) = false := decide_eq_false c3
    obtain ⟨n, hn⟩ : ∃ n : Nat, P = (n : Int) := ⟨P.toNat, by omega⟩
    have hBP' : ∀ wx, Calls Tryz.prog 139 #[.agg #[.bool ng, .bool false, .string ⟨wh.toArray⟩, .string ⟨pt.toArray⟩, .bool pn, .string ⟨ds.toArray⟩], .int .i64 P] wx fun e w' => ∃ v, e = .returned v ∧ Lv w' v (10 ^ n) 2001 ∧ Keep wx w' := fun wx => by
      rw [hn]
      exact hBP n wx (by omega)
    obtain ⟨K2, hK2⟩ : ∃ K2, K2 = 4002 := ⟨_, rfl⟩
    have hb : S * 10 ^ n < 4294967296 ^ K2 := by
      obtain ⟨K, hK⟩ : ∃ K, K = 2001 := ⟨_, rfl⟩
      have h1 : 10 ^ L ≤ 16 ^ L := Nat.pow_le_pow_left (by omega) _
      have h2 : 10 ^ n ≤ 16 ^ n := Nat.pow_le_pow_left (by omega) _
      have h3 : S * 10 ^ n ≤ 16 ^ L * 16 ^ n := Nat.mul_le_mul (Nat.le_trans (Nat.le_of_lt HG6.out) h1) h2
      rw [← Nat.pow_add] at h3
      have h4 : (16 : Nat) ^ (L + n) = 2 ^ (4 * (L + n)) := by rw [Nat.pow_mul]
      have h5 := pow_small (4 * (L + n)) (K2 - 1) (by clear h1 h2 h3 h4; omega)
      have h6 : 4294967296 ^ (K2 - 1) < 4294967296 ^ K2 := Nat.pow_lt_pow_right (by omega) (by omega)
      rw [h4] at h3
      exact Nat.lt_of_le_of_lt (Nat.le_trans h3 h5) h6
    have hMu := fun v1 v2 wx h1 h2 => Mul_lv v1 v2 S (10 ^ n) 2001 K2 wx h1 h2 (by omega) hb
    have hFr := fun wx => From_lv 1 wx (by omega)
    have hNr2 := fun v1 v2 A B wx h1 h2 h3 h4 => nearest_any v1 v2 A B K2 wx h1 h2 (by omega) h3 h4
    unfold fmtV at hNr2
    have hK22 : Hid (2 ≤ K2) := by unfold Hid; omega
    have HM : Hid (P.toNat = n ∧ (-P).toNat = 0) := by unfold Hid; omega
    clear c1 c2 c3 hn hBP hNr hb hK2
    go_upto_region 15 with fail
    go_region_held3 (fun w' => w'.cell? ⟨w.heap.size, 0, none⟩ = some (.int .i64 23) ∧ w'.cell? ⟨w.heap.size, 1, none⟩ = some (.int .i64 255) ∧ w'.cell? ⟨w.heap.size, 2, none⟩ = some (.int .i64 (-149)) ∧ w'.cell? ⟨w.heap.size + 1, 0, none⟩ = some (.bool ng) ∧ w'.cell? ⟨w.heap.size + 1, 1, none⟩ = some (.bool false) ∧ w'.cell? ⟨w.heap.size + 1, 2, none⟩ = some (.string ⟨wh.toArray⟩) ∧ w'.cell? ⟨w.heap.size + 1, 3, none⟩ = some (.string ⟨pt.toArray⟩) ∧ w'.cell? ⟨w.heap.size + 1, 4, none⟩ = some (.bool pn) ∧ w'.cell? ⟨w.heap.size + 1, 5, none⟩ = some (.string ⟨ds.toArray⟩)) (go_keep) (first
      | (go_at_call 138; refine (hNat' _).mono ?_; rintro e w3 ⟨v, rfl, hv, k3⟩; have K3 : Hid (Keep wA w3) := (Keep.refl wA).drew.trans k3; have HV : Hid (Lv w3 v S 2001) := hv; clear hv k3; obtain ⟨hf, hsp⟩ := HFA.out _ K3.out; obtain ⟨f0, f1, f2⟩ := hf.cells; obtain ⟨t0, t1, t2, t3, t4, t5⟩ := hsp.six; clear hf hsp)
      | (go_at_call 139; refine (hBP' _).mono ?_; rintro e w4 ⟨u, rfl, hu, k4⟩; have K4 : Hid (Keep wA w4) := K3.out.trans k4; have HV4 : Hid (Lv w4 v S 2001) := HV.out.keep k4; have HU : Hid (Lv w4 u (10 ^ n) 2001) := hu; clear hu k4; obtain ⟨hf, hsp⟩ := HFA.out _ K4.out; obtain ⟨f0, f1, f2⟩ := hf.cells; obtain ⟨t0, t1, t2, t3, t4, t5⟩ := hsp.six; clear hf hsp)
      | (go_at_call 108; refine (hMu v u _ HV4.out HU.out).mono ?_; rintro e w5 ⟨z, rfl, hz, k5⟩; have K5 : Hid (Keep wA w5) := K4.out.trans k5; have HZ5 : Hid (Lv w5 z (S * 10 ^ n) K2) := hz; clear hz k5; obtain ⟨hf, hsp⟩ := HFA.out _ K5.out; obtain ⟨f0, f1, f2⟩ := hf.cells; obtain ⟨t0, t1, t2, t3, t4, t5⟩ := hsp.six; clear hf hsp)
      | (go_at_call 69; refine (hFr _).mono ?_; rintro e w6 ⟨y, rfl, hy, k6⟩; have K6 : Hid (Keep wA w6) := K5.out.trans k6; have HZ6 : Hid (Lv w6 z (S * 10 ^ n) K2) := HZ5.out.keep k6; have HY : Hid (Lv w6 y 1 K2) := hy.more hK22.out; clear hy k6; obtain ⟨hf, hsp⟩ := HFA.out _ K6.out; obtain ⟨f0, f1, f2⟩ := hf.cells; obtain ⟨t0, t1, t2, t3, t4, t5⟩ := hsp.six; clear hf hsp)
      | (go_at_call 71; refine (hNr2 z y (S * 10 ^ n) 1 _ HZ6.out HY.out (Nat.mul_pos S0.out (Nat.pow_pos (by omega))) (by omega)).mono ?_; rintro e w7 ⟨x, rfl, hx, k7⟩; have K7 : Hid (Keep wA w7) := K6.out.trans k7; have HX : Hid (∀ E, IsE (S * 10 ^ n) 1 E → x = wb (Nr.rup (sA (S * 10 ^ n) E) (sB 1 E)) E) := hx; clear hx k7; obtain ⟨hf, hsp⟩ := HFA.out _ K7.out; obtain ⟨f0, f1, f2⟩ := hf.cells; obtain ⟨t0, t1, t2, t3, t4, t5⟩ := hsp.six; clear hf hsp))
    go_simp
    go_wp2_with fail
    go_ret
    refine ⟨x, rfl, Fin.out x ?_, HKA.out.trans K7.out⟩
    rw [HM.out.1, HM.out.2, Nat.pow_zero]
    have := Nat.mul_pos S0.out (Nat.pow_pos (n := n) (show 0 < 10 by omega))
    exact ⟨fun h => by omega, fun _ => HX.out⟩
end Go.Proofs.YtpdjpjkieafnbaaGreatDoor.Li.Nw
