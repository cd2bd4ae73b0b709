import Derived.Test.YtagfkmbljkglpaaC5
set_option linter.unusedVariables false
set_option linter.unusedSimpArgs false
namespace Go.Proofs.Ytagfkmbljkglpaa
open Go.RowKit Lb Nr
/-- The bits of a number of the reference, without its sign. -/
def nb (inf : Bool) (M : Nat) (E : Int) : Nat := if inf then 9218868437227405312 else if 4503599627370496 ≤ M then (E + 1075).toNat * 4503599627370496 + (M - 4503599627370496) else M
def sg (ng : Bool) : Nat := if ng then 9223372036854775808 else 0
theorem or_sign (x : Nat) (h : x < 9223372036854775808) : bits .or .u64 (x : Int) 9223372036854775808 = ((x + 9223372036854775808 : Nat) : Int) := by
  rw [show (9223372036854775808 : Int) = ((9223372036854775808 : Nat) : Int) from rfl, u64_or_nat x _ (by omega) (by omega), Nat.or_comm]
  have := Nat.two_pow_add_eq_or_of_lt (i := 63) (b := x) h 1
  rw [Nat.mul_one, show (2 : Nat) ^ 63 = 9223372036854775808 from rfl] at this
  rw [← this]
  omega
theorem or_low (k m : Nat) (hk : k < 2048) (hm : m < 4503599627370496) : bits .or .u64 ((k : Int) * 4503599627370496) (m : Int) = ((k * 4503599627370496 + m : Nat) : Int) := by
  rw [show (k : Int) * 4503599627370496 = ((k * 4503599627370496 : Nat) : Int) by omega, u64_or_nat _ _ (by omega) (by omega)]
  have := Nat.two_pow_add_eq_or_of_lt (i := 52) (b := m) hm k
  rw [show (2 : Nat) ^ 52 = 4503599627370496 from rfl, Nat.mul_comm] at this
  rw [← this]
theorem and_low (m : Nat) (h1 : 4503599627370496 ≤ m) (h2 : m < 9007199254740992) : bits .and .u64 (m : Int) 4503599627370495 = ((m - 4503599627370496 : Nat) : Int) := by
  rw [show (4503599627370495 : Int) = ((4503599627370495 : Nat) : Int) from rfl, u64_and_nat m _ (by omega) (by omega), show m &&& 4503599627370495 = m % 4503599627370496 from Nat.and_two_pow_sub_one_eq_mod m 52]
  omega
set_option maxRecDepth 100000 in
set_option maxHeartbeats 1000000 in
theorem Bits_any (ng inf : Bool) (M : Nat) (E : Int) (hM : M < 9007199254740992) (hE : -1074 ≤ E ∧ E ≤ 971) (w : World) :
    Calls Try.prog 17 #[numV ng inf M E, wideV] w fun e w' => e = .returned (.int .u64 (nb inf M E + sg ng : Nat)) ∧ Keep w w' := by
  have HB : Hid (nb inf M E = if inf then 9218868437227405312 else if 4503599627370496 ≤ M then (E + 1075).toNat * 4503599627370496 + (M - 4503599627370496) else M) := rfl
  have hlt : nb inf M E < 9223372036854775808 := by
    unfold nb
    split
    · omega
    · split <;> omega
  have hor := or_sign (nb inf M E) hlt
  unfold numV wideV
  generalize nb inf M E = X at *
  cases inf
  · by_cases h : 4503599627370496 ≤ M
    · have v := HB.out
      simp only [Bool.false_eq_true, if_false, if_pos h] at v
      obtain ⟨k, hk⟩ : ∃ k : Nat, E + 1075 = k := ⟨(E + 1075).toNat, by omega⟩
      have d1 : decide ((4503599627370496 : Int) ≤ (M : Int)) = true := decide_eq_true (by omega)
      have x1 : wrap64 (E + 1074) = E + 1074 := IntWalk.wrap64_in _ (by omega)
      have x2 : wrap64 (E + 1074 + 1) = (k : Int) := by rw [show E + 1074 + 1 = (k : Int) by omega]; exact IntWalk.wrap64_in _ (by omega)
      have x3 : IntKind.u64.wrap (k : Int) = (k : Int) := by rw [IntKind.wrap_u64]; omega
      have x4 : IntKind.u64.wrap ((k : Int) * 4503599627370496) = (k : Int) * 4503599627370496 := by rw [IntKind.wrap_u64]; omega
      have hk2 : E + 1074 + 1 = (k : Int) := by omega
      have x5 := and_low M h hM
      have x6 := or_low k (M - 4503599627370496) (by omega) (by omega)
      rw [show k * 4503599627370496 + (M - 4503599627370496) = X by rw [v, show (E + 1075).toNat = k by omega]] at x6
      obtain ⟨m, hm⟩ : ∃ m, M - 4503599627370496 = m := ⟨_, rfl⟩
      rw [hm] at x5 x6
      clear HB v hm h hM hlt hk
      cases ng
      all_goals
        unfold sg
        go_enter Try.func17, Try.ntmps17
        go_wp2_with fail
        go_ret
        exact ⟨ret_int (by first | rfl | omega | simp), ((Keep.refl w).alloc _).alloc _⟩
    · have v := HB.out
      simp only [Bool.false_eq_true, if_false, if_neg h] at v
      have d1 : decide ((4503599627370496 : Int) ≤ (M : Int)) = false := decide_eq_false (by omega)
      subst v
      clear HB h hM hlt
      cases ng
      all_goals
        unfold sg
        go_enter Try.func17, Try.ntmps17
        go_wp2_with fail
        go_ret
        exact ⟨ret_int (by first | rfl | omega | simp), ((Keep.refl w).alloc _).alloc _⟩
  · have v := HB.out
    simp only [if_true] at v
    subst v
    clear HB hlt
    cases ng
    all_goals
      unfold sg
      go_enter Try.func17, Try.ntmps17
      go_wp2_with fail
      go_ret
      exact ⟨ret_int (by first | rfl | omega | simp), ((Keep.refl w).alloc _).alloc _⟩
set_option maxRecDepth 100000 in
set_option maxHeartbeats 400000 in
theorem is_any (b : Nat) (ng inf : Bool) (M : Nat) (E : Int) (hM : M < 9007199254740992) (hE : -1074 ≤ E ∧ E ≤ 971) (hb : b = nb inf M E + sg ng) (w : World) :
    Calls Try.prog 8 #[.float .f64 b, numV ng inf M E] w fun e w' => e = .returned (.bool true) ∧ Keep w w' := by
  have h7 := fun wx => f64bits b wx
  have h6 := Wide_any
  have h17 := fun wx => Bits_any ng inf M E hM hE wx
  rw [← hb] at h17
  unfold numV wideV at *
  clear hb hM hE
  obtain ⟨w0, hw0, k0, tb⟩ : ∃ w0, w.alloc (Obj.cells #[.bool ng, .bool inf, .bool false, .int .u64 (M : Nat), .int .i64 E] 31) = w0 ∧ Keep w w0 ∧ w0.heap[w.heap.size]? = some (Obj.cells #[.bool ng, .bool inf, .bool false, .int .u64 (M : Nat), .int .i64 E] 31 (0, 0)) := ⟨_, rfl, (Keep.refl w).alloc _, heap_alloc_new w _⟩
  have c0 := cell_of_row _ _ 0 _ 31 (0, 0) tb
  have c1 := cell_of_row _ _ 1 _ 31 (0, 0) tb
  have c2 := cell_of_row _ _ 2 _ 31 (0, 0) tb
  have c3 := cell_of_row _ _ 3 _ 31 (0, 0) tb
  have c4 := cell_of_row _ _ 4 _ 31 (0, 0) tb
  simp only [List.getElem?_toArray, List.getElem?_cons_zero, List.getElem?_cons_succ] at c0 c1 c2 c3 c4
  go_enter Try.func8, Try.ntmps8
  go_upto_region 3 with fail
  go_region_with (first
    | (go_at_call 6; refine (h6 _).mono ?_; rintro e wz ⟨rfl, kz⟩; have z0 := Keep.cell kz c0; have z1 := Keep.cell kz c1; have z2 := Keep.cell kz c2; have z3 := Keep.cell kz c3; have z4 := Keep.cell kz c4)
    | (go_at_call 17; refine (h17 _).mono ?_; rintro e wy ⟨rfl, ky⟩))
  all_goals
    go_wp2_with fail
    go_ret
    refine ⟨by first | rfl | simp, ?_⟩
    first
      | exact (k0.drew.trans kz).trans ky
      | exact ((k0.drew.trans kz).trans ky).drew
      | exact ((k0.drew.trans kz).drew.trans ky)
      | exact (((k0.drew.trans kz).drew.trans ky)).drew
      | exact ((k0.trans kz).trans ky)
      | exact ((k0.trans kz).drew.trans ky)
      | exact ((k0.drew.drew.trans kz).trans ky)
end Go.Proofs.Ytagfkmbljkglpaa
