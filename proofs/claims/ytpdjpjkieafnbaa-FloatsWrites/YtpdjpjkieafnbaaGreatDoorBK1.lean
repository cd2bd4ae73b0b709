import Derived.Test.YtpdjpjkieafnbaaGreatDoorZA
import Derived.Test.YtpdjpjkieafnbaaGreatDoorPFn
import Derived.Test.YtpdjpjkieafnbaaGreatDoorSM5
import Derived.Test.YtpdjpjkieafnbaaGreatDoorH1
import Derived.Test.YtpdjpjkieafnbaaGreatDoorSB1
set_option linter.unusedVariables false
set_option linter.unusedSimpArgs false
namespace Go.Proofs.YtpdjpjkieafnbaaGreatDoor.Li
open Go.RowKit Lb Nr
theorem andTopUB (b : Nat) (hb : b < 18446744073709551616) : bits .and .u64 ((b : Int) / 4503599627370496) 2047 = ((pField b : Nat) : Int) := by
  have e : (b : Int) / 4503599627370496 = ((b / 4503599627370496 : Nat) : Int) := by omega
  rw [e]
  show IntKind.u64.wrap ((BitVec.ofInt 64 ((b / 4503599627370496 : Nat) : Int) &&& BitVec.ofInt 64 ((2047 : Nat) : Int)).toNat : Int) = _
  rw [BitVec.toNat_and, ofInt_u64 _ (by omega), ofInt_u64 _ (by omega), show b / 4503599627370496 &&& 2047 = b / 4503599627370496 % 2048 from Nat.and_two_pow_sub_one_eq_mod _ 11, IntKind.wrap_u64]
  unfold pField
  omega
theorem fin_orderB {b : Nat} (hb : b < 18446744073709551616) (hf : pField b ≠ 2047) : (FloatKind.f64.format.order b 0 == some Ordering.eq) = decide (pKind b = 0) := by
  have h1 : ¬ Fo.isNaN b := by unfold pField at hf; show ¬ 9218868437227405312 < b % 9223372036854775808; omega
  have h2 : ¬ Fo.isNaN 0 := by show ¬ 9218868437227405312 < 0 % 9223372036854775808; omega
  have e : FloatKind.f64.format.order b 0 = some (compare (Fo.ky b) (Fo.ky 0)) := Fo.order_ky b 0 h1 h2
  rw [e]
  have k0 : Fo.ky 0 = 0 := by decide
  rw [k0]
  have hk : pKind b = 0 ↔ Fo.ky b = 0 := by
    unfold pKind Fo.ky Fo.negB
    unfold pField at *
    unfold pKept
    constructor
    · intro h
      repeat' split at h
      all_goals (try omega)
      all_goals (split <;> omega)
    · intro h
      have hz : b % 9223372036854775808 = 0 := by split at h <;> omega
      repeat' split
      all_goals omega
  by_cases c : Fo.ky b = 0
  · rw [c, decide_eq_true (hk.2 c)]
    rfl
  · rw [decide_eq_false (fun q => c (hk.1 q))]
    have : compare (Fo.ky b) 0 ≠ .eq := fun q => c (Int.compare_eq_eq.1 q)
    cases hc : compare (Fo.ky b) 0 with
    | eq => exact absurd hc this
    | lt => rfl
    | gt => rfl
theorem amount_partsB (x : Nat) (ng : Bool) (hx : x < 9218868437227405313) : pM (x + sg ng) = pM x ∧ pE (x + sg ng) = pE x ∧ pKind (x + sg ng) = pKind x := by
  have h1 : pField (x + sg ng) = pField x := by unfold pField sg; split <;> omega
  have h2 : pKept (x + sg ng) = pKept x := by unfold pKept sg; split <;> omega
  unfold pM pE pKind
  rw [h1, h2]
  exact ⟨rfl, rfl, rfl⟩
theorem NB.oneB {N D x y : Nat} (hD : 0 < D) (h : NB N D x) (g : NB N D y) : x = y := by
  rcases Nat.eq_zero_or_pos N with c | c
  · rw [h.1 c, g.1 c]
  · obtain ⟨E, hE⟩ := exE c hD
    rw [h.2 c E hE, g.2 c E hE]
theorem FR.oneB {s : List UInt8} {x e a x' e' a' : Nat} (h : FR s x e a) (g : FR s x' e' a') : x = x' ∧ e = e' ∧ a = a' := by
  rcases h with ⟨h0, rfl, rfl, rfl⟩ | ⟨h0, h⟩
  · rcases g with ⟨g0, rfl, rfl, rfl⟩ | ⟨g0, g⟩
    · exact ⟨rfl, rfl, rfl⟩
    · omega
  rcases g with ⟨g0, -⟩ | ⟨g0, g⟩
  · omega
  rcases h with ⟨hs, rfl, rfl, rfl⟩ | ⟨hs, rfl, rfl, rfl⟩ | ⟨hs, rfl, rfl, rfl⟩ | ⟨hs, rfl, rfl, y, rfl, hy1, hy2⟩ | ⟨hs1, hs2, hs3, hs, rfl, rfl, rfl⟩
  · rcases g with ⟨gs, rfl, rfl, rfl⟩ | ⟨gs, rfl, rfl, rfl⟩ | ⟨gs, rfl, rfl, rfl⟩ | ⟨gs, rfl, rfl, z, rfl, gz1, gz2⟩ | ⟨gs1, gs2, gs3, gs, rfl, rfl, rfl⟩
    · exact ⟨rfl, rfl, rfl⟩
    · exact absurd (hs.symm.trans gs) (by decide)
    · exact absurd (hs.symm.trans gs) (by decide)
    · exact absurd hs (not_word gs).1
    · exact absurd hs gs1
  · rcases g with ⟨gs, rfl, rfl, rfl⟩ | ⟨gs, rfl, rfl, rfl⟩ | ⟨gs, rfl, rfl, rfl⟩ | ⟨gs, rfl, rfl, z, rfl, gz1, gz2⟩ | ⟨gs1, gs2, gs3, gs, rfl, rfl, rfl⟩
    · exact absurd (hs.symm.trans gs) (by decide)
    · exact ⟨rfl, rfl, rfl⟩
    · exact absurd (hs.symm.trans gs) (by decide)
    · exact absurd hs (not_word gs).2.1
    · exact absurd hs gs2
  · rcases g with ⟨gs, rfl, rfl, rfl⟩ | ⟨gs, rfl, rfl, rfl⟩ | ⟨gs, rfl, rfl, rfl⟩ | ⟨gs, rfl, rfl, z, rfl, gz1, gz2⟩ | ⟨gs1, gs2, gs3, gs, rfl, rfl, rfl⟩
    · exact absurd (hs.symm.trans gs) (by decide)
    · exact absurd (hs.symm.trans gs) (by decide)
    · exact ⟨rfl, rfl, rfl⟩
    · exact absurd hs (not_word gs).2.2
    · exact absurd hs gs3
  · rcases g with ⟨gs, rfl, rfl, rfl⟩ | ⟨gs, rfl, rfl, rfl⟩ | ⟨gs, rfl, rfl, rfl⟩ | ⟨gs, rfl, rfl, z, rfl, gz1, gz2⟩ | ⟨gs1, gs2, gs3, gs, rfl, rfl, rfl⟩
    · exact absurd gs (not_word hs).1
    · exact absurd gs (not_word hs).2.1
    · exact absurd gs (not_word hs).2.2
    · refine ⟨?_, rfl, rfl⟩
      cases hhx : cHx s with
      | false => rw [NB.oneB (Nat.pow_pos (by omega)) (hy1 hhx) (gz1 hhx)]
      | true => rw [NB.oneB (Nat.pow_pos (by omega)) (hy2 hhx) (gz2 hhx)]
    · exact absurd (hs.symm.trans gs) (by decide)
  · rcases g with ⟨gs, rfl, rfl, rfl⟩ | ⟨gs, rfl, rfl, rfl⟩ | ⟨gs, rfl, rfl, rfl⟩ | ⟨gs, rfl, rfl, z, rfl, gz1, gz2⟩ | ⟨gs1, gs2, gs3, gs, rfl, rfl, rfl⟩
    · exact absurd gs hs1
    · exact absurd gs hs2
    · exact absurd gs hs3
    · exact absurd (hs.symm.trans gs) (by decide)
    · exact ⟨rfl, rfl, rfl⟩
end Go.Proofs.YtpdjpjkieafnbaaGreatDoor.Li
namespace Go.Proofs.YtpdjpjkieafnbaaGreatDoor.Li.Nw
open Go.RowKit Lb Nr
theorem NB.oneB {N D x y : Nat} (hD : 0 < D) (h : NB N D x) (g : NB N D y) : x = y := by
  rcases Nat.eq_zero_or_pos N with c | c
  · rw [h.1 c, g.1 c]
  · obtain ⟨E, hE⟩ := exE c hD
    rw [h.2 c E hE, g.2 c E hE]
theorem FR.oneB {s : List UInt8} {x e a x' e' a' : Nat} (h : FR s x e a) (g : FR s x' e' a') : x = x' ∧ e = e' ∧ a = a' := by
  rcases h with ⟨h0, rfl, rfl, rfl⟩ | ⟨h0, h⟩
  · rcases g with ⟨g0, rfl, rfl, rfl⟩ | ⟨g0, g⟩
    · exact ⟨rfl, rfl, rfl⟩
    · omega
  rcases g with ⟨g0, -⟩ | ⟨g0, g⟩
  · omega
  rcases h with ⟨hs, rfl, rfl, rfl⟩ | ⟨hs, rfl, rfl, rfl⟩ | ⟨hs, rfl, rfl, rfl⟩ | ⟨hs, rfl, rfl, y, rfl, hy1, hy2⟩ | ⟨hs1, hs2, hs3, hs, rfl, rfl, rfl⟩
  · rcases g with ⟨gs, rfl, rfl, rfl⟩ | ⟨gs, rfl, rfl, rfl⟩ | ⟨gs, rfl, rfl, rfl⟩ | ⟨gs, rfl, rfl, z, rfl, gz1, gz2⟩ | ⟨gs1, gs2, gs3, gs, rfl, rfl, rfl⟩
    · exact ⟨rfl, rfl, rfl⟩
    · exact absurd (hs.symm.trans gs) (by decide)
    · exact absurd (hs.symm.trans gs) (by decide)
    · exact absurd hs (not_word gs).1
    · exact absurd hs gs1
  · rcases g with ⟨gs, rfl, rfl, rfl⟩ | ⟨gs, rfl, rfl, rfl⟩ | ⟨gs, rfl, rfl, rfl⟩ | ⟨gs, rfl, rfl, z, rfl, gz1, gz2⟩ | ⟨gs1, gs2, gs3, gs, rfl, rfl, rfl⟩
    · exact absurd (hs.symm.trans gs) (by decide)
    · exact ⟨rfl, rfl, rfl⟩
    · exact absurd (hs.symm.trans gs) (by decide)
    · exact absurd hs (not_word gs).2.1
    · exact absurd hs gs2
  · rcases g with ⟨gs, rfl, rfl, rfl⟩ | ⟨gs, rfl, rfl, rfl⟩ | ⟨gs, rfl, rfl, rfl⟩ | ⟨gs, rfl, rfl, z, rfl, gz1, gz2⟩ | ⟨gs1, gs2, gs3, gs, rfl, rfl, rfl⟩
    · exact absurd (hs.symm.trans gs) (by decide)
    · exact absurd (hs.symm.trans gs) (by decide)
    · exact ⟨rfl, rfl, rfl⟩
    · exact absurd hs (not_word gs).2.2
    · exact absurd hs gs3
  · rcases g with ⟨gs, rfl, rfl, rfl⟩ | ⟨gs, rfl, rfl, rfl⟩ | ⟨gs, rfl, rfl, rfl⟩ | ⟨gs, rfl, rfl, z, rfl, gz1, gz2⟩ | ⟨gs1, gs2, gs3, gs, rfl, rfl, rfl⟩
    · exact absurd gs (not_word hs).1
    · exact absurd gs (not_word hs).2.1
    · exact absurd gs (not_word hs).2.2
    · refine ⟨?_, rfl, rfl⟩
      cases hhx : cHx s with
      | false => rw [NB.oneB (Nat.pow_pos (by omega)) (hy1 hhx) (gz1 hhx)]
      | true => rw [NB.oneB (Nat.pow_pos (by omega)) (hy2 hhx) (gz2 hhx)]
    · exact absurd (hs.symm.trans gs) (by decide)
  · rcases g with ⟨gs, rfl, rfl, rfl⟩ | ⟨gs, rfl, rfl, rfl⟩ | ⟨gs, rfl, rfl, rfl⟩ | ⟨gs, rfl, rfl, z, rfl, gz1, gz2⟩ | ⟨gs1, gs2, gs3, gs, rfl, rfl, rfl⟩
    · exact absurd gs hs1
    · exact absurd gs hs2
    · exact absurd gs hs3
    · exact absurd (hs.symm.trans gs) (by decide)
    · exact ⟨rfl, rfl, rfl⟩
theorem f32bitsB (x : Nat) (w : World) : (callFunc 31 #[.float .f32 x]).run Tryz.prog w = .ok (.value (.int .u32 (x : Nat))) w := by
  rw [run_callFunc_extern Tryz.func31 (by kernel_rfl) (by kernel_rfl) (by kernel_rfl) (e := Extern.MathFloatBits.float32bits) (by kernel_rfl)]
  rfl
end Go.Proofs.YtpdjpjkieafnbaaGreatDoor.Li.Nw
set_option linter.unusedVariables false
set_option linter.unusedSimpArgs false
namespace Go.Proofs.YtpdjpjkieafnbaaGreatDoor.Li
open Go.RowKit Lb Nr
/-- A text is read as the number of these bits (as a NaN, if they are one). -/
def RB (s : List UInt8) (b : Nat) : Prop := ∀ w, Calls Tryz.prog 12 #[.string ⟨s.toArray⟩] w fun e w' => ∃ x : Nat, e = .returned (.tuple #[.float .f64 x, .int .i64 0, .int .i64 0]) ∧ (Fo.isNaN b → Fo.isNaN x) ∧ (¬ Fo.isNaN b → x = b) ∧ Keep w w'
theorem ord_selfZ (b : Nat) (h : ¬ Fo.isNaN b) : FloatKind.f64.format.order b b = some .eq := by
  refine Eq.trans (Fo.order_ky b b h h) ?_
  rw [Int.compare_eq_eq.2 rfl]
theorem ord_nanZ (b : Nat) (h : Fo.isNaN b) : FloatKind.f64.format.order b b = none := Fo.order_nan b b (.inl h)
set_option maxRecDepth 100000 in
set_option maxHeartbeats 400000 in
theorem back_any (s : List UInt8) (b : Nat) (h : RB s b) (w : World) : Calls Tryz.prog 30 #[.string ⟨s.toArray⟩, .float .f64 b] w fun e w' => e = .returned (.bool true) ∧ Keep w w' := by
  have h34 := fun (x : Nat) wx => f64bits x wx
  by_cases c : Fo.isNaN b
  · have o1 := ord_nanZ b c
    go_enter Tryz.func30, Tryz.ntmps30
    go_wp2_with fail
    refine (h _).mono ?_
    rintro e w1 ⟨x, rfl, hx1, -, k1⟩
    have o2 := ord_nanZ x (hx1 c)
    clear hx1
    go_wp2_with fail
    go_ret
    exact ⟨rfl, k1⟩
  · have o1 := ord_selfZ b c
    go_enter Tryz.func30, Tryz.ntmps30
    go_wp2_with fail
    refine (h _).mono ?_
    rintro e w1 ⟨x, rfl, -, hx2, k1⟩
    obtain rfl := hx2 c
    clear hx2
    go_wp2_with fail
    go_ret
    exact ⟨rfl, k1⟩
/-- The amount of a number's bits. -/
theorem amount_of {b : Nat} (hb : b < 18446744073709551616) : b = b % 9223372036854775808 + sg (pNeg b) := by
  unfold sg pNeg
  by_cases c : 9223372036854775808 ≤ b
  · rw [if_pos (decide_eq_true c)]; omega
  · rw [if_neg (by simpa using c)]; omega
theorem fin_not_nan {b : Nat} (h : pField b ≠ 2047) : ¬ Fo.isNaN b := by
  unfold pField at h
  show ¬ 9218868437227405312 < b % 9223372036854775808
  omega
theorem kind_field {b : Nat} (hk : pKind b = 1 ∨ pKind b = 2) : pField b ≠ 2047 := by
  intro q
  unfold pKind at hk
  rw [if_pos q] at hk
  split at hk <;> omega
/-- A text that says a number's amount exactly enough is read as the number. -/
theorem rb_of {s : List UInt8} {b N D : Nat} (hb : b < 18446744073709551616) (hD : 0 < D) (hf : pField b ≠ 2047) (hNB : NB N D (b % 9223372036854775808)) (hR : ∀ w, Calls Tryz.prog 12 #[.string ⟨s.toArray⟩] w fun e w' => ∃ y : Nat, e = .returned (.tuple #[.float .f64 (y + sg (pNeg b)), .int .i64 0, .int .i64 0]) ∧ NB N D y ∧ Keep w w') : RB s b := by
  intro w
  refine (hR w).mono ?_
  rintro e w' ⟨y, rfl, hy, k⟩
  have e1 : y = b % 9223372036854775808 := NB.oneB hD hy hNB
  have e2 : y + sg (pNeg b) = b := by rw [e1]; exact (amount_of hb).symm
  exact ⟨_, rfl, fun q => absurd q (fin_not_nan hf), fun _ => e2, k⟩
/-- What Shortest writes is read back. -/
theorem rb_short {b : Nat} (hb : b < 18446744073709551616) (hk : pKind b = 1 ∨ pKind b = 2) : RB (sgS (pNeg b) (shT (pM b) (pE b))) b := by
  obtain ⟨p1, p2, p3, p4⟩ := kind_parts hk
  have hf := kind_field hk
  obtain ⟨x, hx⟩ : ∃ x, b % 9223372036854775808 = x := ⟨_, rfl⟩
  have hx2 : x < 9218868437227405312 := by unfold pField at hf; omega
  have hbx := amount_of hb
  rw [hx] at hbx
  obtain ⟨e1, e2, e3⟩ := amount_partsB x (pNeg b) (by omega)
  rw [← hbx] at e1 e2 e3
  have hk' := hk
  rw [e3] at hk'
  have hs := short_back hx2 hk'
  rw [← e1, ← e2] at hs
  obtain ⟨-, -, -, a4, -, -, -⟩ := fw_main p1 p2 ⟨p3, p4⟩
  have h20 := (fwD_lt p1 p2 ⟨p3, p4⟩).2
  obtain ⟨t1, -, -⟩ := scale_ok p1 p2 ⟨p3, p4⟩
  have hK18 : fwK (pM b) (pE b) ≤ 18 := unK_le _ _ _
  rw [← hx] at hs
  exact rb_of hb (Nat.pow_pos (by decide)) hf hs (fun w => Read_lo (pNeg b) (fwD (pM b) (pE b)) ((fwK (pM b) (pE b) : Int) - tnF (pM b) (pE b)) w a4 h20 (by omega))
/-- An exact quotient is read as the number. -/
theorem exact_nb {N D x : Nat} (hN : 0 < N) (hD : 0 < D) (hx2 : x < 9218868437227405312) (hk : pKind x = 1 ∨ pKind x = 2) (h : N * 2 ^ (-(pE x)).toNat = pM x * (D * 2 ^ (pE x).toNat)) : NB N D x := by
  obtain ⟨p1, p2, p3, p4⟩ := kind_parts hk
  have hB := sB_pos hD (pE x - 2)
  have hY := sB_pos hD (pE x)
  have hq := quart_eq N D (pE x)
  have h' : sA N (pE x) = pM x * sB D (pE x) := h
  have hA : sA N (pE x - 2) = 4 * pM x * sB D (pE x - 2) := by
    apply Nat.eq_of_mul_eq_mul_right hY
    rw [← hq, h']
    ac_rfl
  have hdn : bDn (pM x) (pE x) < 4 * pM x := by unfold bDn; split <;> omega
  refine quart_back hN hD hx2 hk ?_ (fun q => ?_) ?_ (fun q => ?_)
  · rw [hA]; exact Nat.mul_le_mul_right _ (by omega)
  · rw [hA] at q
    exact absurd (Nat.eq_of_mul_eq_mul_right hB q) (by omega)
  · rw [hA]; exact Nat.mul_le_mul_right _ (by omega)
  · rw [hA] at q
    exact absurd (Nat.eq_of_mul_eq_mul_right hB q) (by omega)
end Go.Proofs.YtpdjpjkieafnbaaGreatDoor.Li
