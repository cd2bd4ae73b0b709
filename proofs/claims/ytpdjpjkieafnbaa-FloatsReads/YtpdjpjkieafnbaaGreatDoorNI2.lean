import Derived.Test.YtpdjpjkieafnbaaGreatDoorNC10
import Derived.Test.YtpdjpjkieafnbaaGreatDoorR12
import Derived.Test.YtpdjpjkieafnbaaGreatDoorNX4
import Derived.Test.YtpdjpjkieafnbaaGreatDoorProg
import Derived.Test.YtpdjpjkieafnbaaGreatDoorNB2
import Derived.WalkKit
import Derived.WalkSpells
import Derived.WalkLawsBesides
import Derived.Laws.CopyOwn
import Derived.Deep.Draws
import Derived.Deep.QuietTactic
import Derived.BigQuiet
import Derived.Laws.MathBits
import Derived.Laws.Externs
set_option linter.unusedVariables false
set_option linter.unusedSimpArgs false
namespace Go.Proofs.YtpdjpjkieafnbaaGreatDoor.Li.Nw
open Go.RowKit Lb Nr
/-- As the reference puts them together. -/
def rM (M : Nat) : Nat := if M = 16777216 then 8388608 else M
def rE (M : Nat) (E : Int) : Int := if M = 16777216 then E + 1 else E
/-- The format, as the reference has it; a number of the reference. -/
def narrowV : Value := .agg #[.int .i64 24, .int .i64 (-149), .int .i64 104]
def nearV (M : Nat) (E : Int) (ng : Bool) : Value := if 104 < rE M E then numV ng true 0 0 else numV ng false (rM M) (rE M E)
theorem q_great' {x y : Nat} (hx : 0 < x) (hy : 0 < y) (h : (26 : Int) < (sz x : Int) - (sz y : Int)) : 16777216 ≤ x / y := by
  rw [Nat.le_div_iff_mul_le hy]
  have a := sz_lt y
  obtain ⟨b, c⟩ := sz_ge hx
  have d : 2 ^ 24 * 2 ^ sz y ≤ 2 ^ (sz x - 1) := by
    rw [← Nat.pow_add]
    exact Nat.pow_le_pow_right (by omega) (by omega)
  rw [p53] at d
  omega
theorem q_less {x y : Nat} (hy : 0 < y) (h : (sz x : Int) - (sz y : Int) ≤ 26) : x / y < 18446744073709551616 := by
  rw [Nat.div_lt_iff_lt_mul hy]
  have a := sz_lt x
  obtain ⟨b, c⟩ := sz_ge hy
  have d : 2 ^ sz x ≤ 2 ^ 27 * 2 ^ (sz y - 1) := by
    rw [← Nat.pow_add]
    exact Nat.pow_le_pow_right (by omega) (by omega)
  have e := Nat.mul_le_mul_left (2 ^ 27) b
  have f : (2 : Nat) ^ 27 = 134217728 := rfl
  omega
theorem fl_big {N D : Nat} {e : Int} (hN : 0 < N) (hD : 0 < D) (h : (26 : Int) < (sz (sA N e) : Int) - (sz (sB D e) : Int)) : 16777216 ≤ fl N D e := by
  have := q_great' (sA_pos hN e) (sB_pos hD e) h
  exact this
/-- Where the search begins. -/
def e0 (N D : Nat) : Int := max ((sz N : Int) - (sz D : Int) - 25) (-149)
theorem e0_ok {N D : Nat} (hN : 0 < N) (hD : 0 < D) : -149 ≤ e0 N D ∧ (e0 N D = -149 ∨ 16777216 ≤ fl N D (e0 N D - 1)) := by
  refine ⟨by unfold e0; omega, ?_⟩
  by_cases h : e0 N D = -149
  · exact .inl h
  · have := fl_ge (c := 24) (e := e0 N D - 1) hN hD (by unfold e0 at *; omega)
    rw [p53] at this
    exact .inr this
theorem e_le {N D : Nat} (hD : 0 < D) {e : Int} (h : e = -149 ∨ 16777216 ≤ fl N D (e - 1)) : e ≤ -149 ∨ e ≤ (sz N : Int) - (sz D : Int) := by
  rcases h with h | h
  · exact .inl (by omega)
  · refine .inr (Int.not_lt.1 fun g => ?_)
    have := fl_lt (N := N) (c := 24) (e := e - 1) hD (by omega)
    rw [p53] at this
    omega
theorem fl_step {N D : Nat} (hD : 0 < D) (e : Int) (h : 16777216 ≤ fl N D e) : fl N D (e + 1) < fl N D e := by
  have := fl_add hD e 1 (N := N)
  rw [show e + (1 : Nat) = e + 1 from rfl] at this
  omega
end Go.Proofs.YtpdjpjkieafnbaaGreatDoor.Li.Nw
set_option linter.unusedVariables false
set_option linter.unusedSimpArgs false
namespace Go.Proofs.YtpdjpjkieafnbaaGreatDoor.Li.Nw
open Go.RowKit Lb Nr
/-- The bits of a number of the reference, without its sign. -/
def nb (inf : Bool) (M : Nat) (E : Int) : Nat := if inf then 2139095040 else if 8388608 ≤ M then (E + 150).toNat * 8388608 + (M - 8388608) else M
theorem or_low (k m : Nat) (hk : k < 256) (hm : m < 8388608) : bits .or .u64 ((k : Int) * 8388608) (m : Int) = ((k * 8388608 + m : Nat) : Int) := by
  rw [show (k : Int) * 8388608 = ((k * 8388608 : Nat) : Int) by omega, u64_or_nat _ _ (by omega) (by omega)]
  have := Nat.two_pow_add_eq_or_of_lt (i := 23) (b := m) hm k
  rw [show (2 : Nat) ^ 23 = 8388608 from rfl, Nat.mul_comm] at this
  rw [← this]
theorem and_low (m : Nat) (h1 : 8388608 ≤ m) (h2 : m < 16777216) : bits .and .u64 (m : Int) 8388607 = ((m - 8388608 : Nat) : Int) := by
  rw [show (8388607 : Int) = ((8388607 : Nat) : Int) from rfl, u64_and_nat m _ (by omega) (by omega), show m &&& 8388607 = m % 8388608 from Nat.and_two_pow_sub_one_eq_mod m 23]
  omega
set_option maxRecDepth 100000 in
set_option maxHeartbeats 1000000 in
theorem Bits_any (ng inf : Bool) (M : Nat) (E : Int) (hM : M < 16777216) (hE : -149 ≤ E ∧ E ≤ 104) (w : World) :
    Calls Tryz.prog 55 #[numV ng inf M E, narrowV] w fun e w' => e = .returned (.int .u64 (nb inf M E + sg ng : Nat)) ∧ Keep w w' := by
  have HB : Hid (nb inf M E = if inf then 2139095040 else if 8388608 ≤ M then (E + 150).toNat * 8388608 + (M - 8388608) else M) := rfl
  have hlt : nb inf M E < 2147483648 := by
    unfold nb
    split
    · omega
    · split <;> omega
  have hor := or_sign (nb inf M E) hlt
  unfold numV narrowV
  generalize nb inf M E = X at *
  cases inf
  · by_cases h : 8388608 ≤ M
    · have v := HB.out
      simp only [Bool.false_eq_true, if_false, if_pos h] at v
      obtain ⟨k, hk⟩ : ∃ k : Nat, E + 150 = k := ⟨(E + 150).toNat, by omega⟩
      have d1 : decide ((8388608 : Int) ≤ (M : Int)) = true := decide_eq_true (by omega)
      have x1 : wrap64 (E + 149) = E + 149 := IntWalk.wrap64_in _ (by omega)
      have x2 : wrap64 (E + 149 + 1) = (k : Int) := by rw [show E + 149 + 1 = (k : Int) by omega]; exact IntWalk.wrap64_in _ (by omega)
      have x3 : IntKind.u64.wrap (k : Int) = (k : Int) := by rw [IntKind.wrap_u64]; omega
      have x4 : IntKind.u64.wrap ((k : Int) * 8388608) = (k : Int) * 8388608 := by rw [IntKind.wrap_u64]; omega
      have hk2 : E + 149 + 1 = (k : Int) := by omega
      have x5 := and_low M h hM
      have x6 := or_low k (M - 8388608) (by omega) (by omega)
      rw [show k * 8388608 + (M - 8388608) = X by rw [v, show (E + 150).toNat = k by omega]] at x6
      obtain ⟨m, hm⟩ : ∃ m, M - 8388608 = m := ⟨_, rfl⟩
      rw [hm] at x5 x6
      clear HB v hm h hM hlt hk
      cases ng
      all_goals
        unfold sg
        go_enter Tryz.func55, Tryz.ntmps55
        go_wp2_with fail
        go_ret
        exact ⟨ret_int (by first | rfl | omega | simp), ((Keep.refl w).alloc _).alloc _⟩
    · have v := HB.out
      simp only [Bool.false_eq_true, if_false, if_neg h] at v
      have d1 : decide ((8388608 : Int) ≤ (M : Int)) = false := decide_eq_false (by omega)
      subst v
      clear HB h hM hlt
      cases ng
      all_goals
        unfold sg
        go_enter Tryz.func55, Tryz.ntmps55
        go_wp2_with fail
        go_ret
        exact ⟨ret_int (by first | rfl | omega | simp), ((Keep.refl w).alloc _).alloc _⟩
  · have v := HB.out
    simp only [if_true] at v
    subst v
    clear HB hlt
    cases ng
    all_goals
      unfold sg
      go_enter Tryz.func55, Tryz.ntmps55
      go_wp2_with fail
      go_ret
      exact ⟨ret_int (by first | rfl | omega | simp), ((Keep.refl w).alloc _).alloc _⟩
end Go.Proofs.YtpdjpjkieafnbaaGreatDoor.Li.Nw
set_option linter.unusedVariables false
set_option linter.unusedSimpArgs false
namespace Go.Proofs.YtpdjpjkieafnbaaGreatDoor.Li
open Go.RowKit Lb
/-- The parts of a binary64's bits. -/
def pKept (b : Nat) : Nat := b % 4503599627370496
def pField (b : Nat) : Nat := b / 4503599627370496 % 2048
def pNeg (b : Nat) : Bool := decide (9223372036854775808 ≤ b)
def pM (b : Nat) : Nat := if 0 < pField b ∧ pField b < 2047 then 4503599627370496 + pKept b else pKept b
def pE (b : Nat) : Int := if pField b = 2047 then 0 else if 0 < pField b then -1074 + (pField b : Int) - 1 else if 0 < pKept b then -1074 else 0
def pKind (b : Nat) : Nat := if pField b = 2047 then (if pKept b = 0 then 3 else 4) else if 0 < pField b then 2 else if 0 < pKept b then 1 else 0
theorem results_tmp4 {fn : Func} {t u v x : Tmp} (h : fn.results = #[.tmp t, .tmp u, .tmp v, .tmp x]) (tmps : Array Value) (P : Program) (w : World) :
    (results fn tmps).run P w = .ok (.tuple #[tmps.getD t undef, tmps.getD u undef, tmps.getD v undef, tmps.getD x undef]) w := by
  simp [results, h, List.mapM_cons]
theorem and52 (b : Nat) (hb : b < 18446744073709551616) : bits .and .u64 (b : Int) 4503599627370495 = ((pKept b : Nat) : Int) := by
  have := u64_and_nat b 4503599627370495 hb (by omega)
  rw [show b &&& 4503599627370495 = b % 4503599627370496 from Nat.and_two_pow_sub_one_eq_mod b 52] at this
  exact this
theorem and63 (b : Nat) (hb : b < 18446744073709551616) : (bits .and .u64 (b : Int) 9223372036854775808 != 0) = pNeg b := by
  have h := u64_and_nat b 9223372036854775808 hb (by omega)
  have e1 : (b &&& 9223372036854775808) / 9223372036854775808 = b / 9223372036854775808 % 2 := by
    have := Nat.and_div_two_pow (a := b) (b := 9223372036854775808) (n := 63)
    have h2 : b / 2 ^ 63 &&& 9223372036854775808 / 2 ^ 63 = b / 2 ^ 63 % 2 := Nat.and_one_is_mod _
    exact this.trans h2
  have e2 : (b &&& 9223372036854775808) % 9223372036854775808 = 0 := by
    have := Nat.and_mod_two_pow (a := b) (b := 9223372036854775808) (n := 63)
    have h2 : (b % 2 ^ 63) &&& (9223372036854775808 % 2 ^ 63) = 0 := Nat.and_zero _
    exact this.trans h2
  have h' : bits .and .u64 (b : Int) 9223372036854775808 = ((b &&& 9223372036854775808 : Nat) : Int) := h
  rw [h']
  generalize b &&& 9223372036854775808 = y at *
  unfold pNeg
  rw [Bool.eq_iff_iff]
  simp only [bne_iff_ne, ne_eq, decide_eq_true_eq]
  omega
theorem andTop (b : Nat) (hb : b < 18446744073709551616) : bits .and .i64 ((b : Int) / 4503599627370496) 2047 = ((pField b : Nat) : Int) := by
  have e : (b : Int) / 4503599627370496 = ((b / 4503599627370496 : Nat) : Int) := by omega
  rw [e]
  show IntKind.i64.wrap ((BitVec.ofInt 64 ((b / 4503599627370496 : Nat) : Int) &&& BitVec.ofInt 64 ((2047 : Nat) : Int)).toNat : Int) = _
  rw [BitVec.toNat_and, ofInt_u64 _ (by omega), ofInt_u64 _ (by omega), show b / 4503599627370496 &&& 2047 = b / 4503599627370496 % 2048 from Nat.and_two_pow_sub_one_eq_mod _ 11, IntWalk.i64_left]
  exact IntWalk.wrap64_in _ (by omega)
theorem or52 (y : Nat) (hy : y < 4503599627370496) : bits .or .u64 4503599627370496 (y : Int) = ((4503599627370496 + y : Nat) : Int) := by
  have h := u64_or_nat 4503599627370496 y (by omega) (by omega)
  have e : 4503599627370496 ||| y = 4503599627370496 + y := (Nat.two_pow_add_eq_or_of_lt (i := 52) hy 1).symm
  rw [e] at h
  exact h
set_option maxRecDepth 100000 in
set_option maxHeartbeats 1000000 in
theorem parts_any (b : Nat) (hb : b < 18446744073709551616) (w : World) :
    Calls Tryz.prog 98 #[.agg #[.int .i64 52, .int .i64 2047, .int .i64 (-1074)], .int .u64 (b : Nat)] w fun e w' => e = .returned (.tuple #[.bool (pNeg b), .int .u64 (pM b : Nat), .int .i64 (pE b), .int .u8 (pKind b : Nat)]) ∧ Keep w w' := by
  have hS := signBit_any
  obtain ⟨w1, hw1, k0, tb⟩ : ∃ w1, w.alloc (Obj.cells #[Value.int IntKind.i64 52, Value.int IntKind.i64 2047, Value.int IntKind.i64 (-1074)] 85) = w1 ∧ Keep w w1 ∧ w1.heap[w.heap.size]? = some (Obj.cells #[Value.int IntKind.i64 52, Value.int IntKind.i64 2047, Value.int IntKind.i64 (-1074)] 85 (0, 0)) := ⟨_, rfl, (Keep.refl w).alloc _, heap_alloc_new w _⟩
  have b0 := cell_of_row _ _ 0 _ 85 (0, 0) tb
  have b1 := cell_of_row _ _ 1 _ 85 (0, 0) tb
  have b2 := cell_of_row _ _ 2 _ 85 (0, 0) tb
  simp only [List.getElem?_toArray, List.getElem?_cons_zero, List.getElem?_cons_succ] at b0 b1 b2
  replace hw1 : Hid _ := hw1
  clear tb
  go_enter Tryz.func98, Tryz.ntmps98
  go_wp2_with fail
  rw [hw1.out]
  refine (hS _).mono ?_
  rintro e w2 ⟨rfl, k2⟩
  have b0 := k2.cell b0
  have b1 := k2.cell b1
  have b2 := k2.cell b2
  have h52 := and52 b hb
  have h63 := and63 b hb
  have hTp := andTop b hb
  have ho := or52 (pKept b) (Nat.mod_lt _ (by omega))
  have hkl : pKept b < 4503599627370496 := Nat.mod_lt _ (by omega)
  have hfl : pField b < 2048 := Nat.mod_lt _ (by omega)
  have HM : Hid (pM b = if 0 < pField b ∧ pField b < 2047 then 4503599627370496 + pKept b else pKept b) := rfl
  have HE : Hid (pE b = if pField b = 2047 then 0 else if 0 < pField b then -1074 + (pField b : Int) - 1 else if 0 < pKept b then -1074 else 0) := rfl
  have HK : Hid (pKind b = if pField b = 2047 then (if pKept b = 0 then 3 else 4) else if 0 < pField b then 2 else if 0 < pKept b then 1 else 0) := rfl
  replace HM : Hid _ := HM
  have EN : Hid (∃ n, pNeg b = n) := ⟨_, rfl⟩
  generalize hng : pNeg b = ng at h63
  replace hng : Hid _ := hng
  generalize pField b = f at *
  generalize pKept b = kp at *
  by_cases h1 : f = 2047
  · by_cases h2 : kp = 0
    · have eM : Hid (pM b = 0) := by show _ = _; rw [HM.out, h1, h2]; rfl
      have eE : Hid (pE b = 0) := by show _ = _; rw [HE.out, h1]; rfl
      have eK : Hid (pKind b = 3) := by show _ = _; rw [HK.out, h1, h2]; rfl
      subst h1 h2
      clear HM HE HK
      go_wp2_with fail
      go_quiet (fail)
      go_simp
      go_wp2_with fail
      try simp only [Exit.inBlock, Exit.then]
      refine bodyPost_ret (results_tmp4 rfl _ _ _) rfl ?_
      rw [hng.out, eM.out, eE.out, eK.out]
      refine ⟨?_, by first | exact (k0.trans k2).drewN _ | exact ((k0.trans k2).drewN _).drewN _⟩
      first | rfl | (congr 2; simp; omega) | simp
    · have eM : Hid (pM b = kp) := by show _ = _; rw [HM.out, h1]; rfl
      have eE : Hid (pE b = 0) := by show _ = _; rw [HE.out, h1]; rfl
      have eK : Hid (pKind b = 4) := by show _ = _; rw [HK.out, h1, if_pos rfl, if_neg h2]
      have h3 : ((kp : Int) == 0) = false := by rw [beq_eq_false_iff_ne]; omega
      subst h1
      clear HM HE HK
      go_wp2_with fail
      go_quiet (fail)
      go_simp
      go_wp2_with fail
      try simp only [Exit.inBlock, Exit.then]
      refine bodyPost_ret (results_tmp4 rfl _ _ _) rfl ?_
      rw [hng.out, eM.out, eE.out, eK.out]
      refine ⟨?_, by first | exact (k0.trans k2).drewN _ | exact ((k0.trans k2).drewN _).drewN _⟩
      first | rfl | (congr 2; simp; omega) | simp
  · have h1' : ((f : Int) == 2047) = false := by rw [beq_eq_false_iff_ne]; omega
    by_cases h2 : 0 < f
    · have eM : Hid (pM b = 4503599627370496 + kp) := by show _ = _; rw [HM.out, if_pos ⟨h2, by omega⟩]
      have eE : Hid (pE b = -1074 + (f : Int) - 1) := by show _ = _; rw [HE.out, if_neg h1, if_pos h2]
      have eK : Hid (pKind b = 2) := by show _ = _; rw [HK.out, if_neg h1, if_pos h2]
      have h2' : (0 : Int) < (f : Int) := by omega
      clear HM HE HK
      go_wp2_with fail
      go_quiet (fail)
      go_simp
      go_wp2_with fail
      go_quiet (fail)
      go_simp
      go_wp2_with fail
      try simp only [Exit.inBlock, Exit.then]
      refine bodyPost_ret (results_tmp4 rfl _ _ _) rfl ?_
      rw [hng.out, eM.out, eE.out, eK.out]
      refine ⟨?_, by first | exact (k0.trans k2).drewN _ | exact ((k0.trans k2).drewN _).drewN _⟩
      first | rfl | (congr 2; simp; omega) | simp
    · have h2' : ¬ (0 : Int) < (f : Int) := by omega
      by_cases h3 : 0 < kp
      · have eM : Hid (pM b = kp) := by show _ = _; rw [HM.out, if_neg (fun h => h2 h.1)]
        have eE : Hid (pE b = -1074) := by show _ = _; rw [HE.out, if_neg h1, if_neg h2, if_pos h3]
        have eK : Hid (pKind b = 1) := by show _ = _; rw [HK.out, if_neg h1, if_neg h2, if_pos h3]
        have h3' : (0 : Int) < (kp : Int) := by omega
        clear HM HE HK
        go_wp2_with fail
        go_quiet (fail)
        go_simp
        go_wp2_with fail
        go_quiet (fail)
        go_simp
        go_wp2_with fail
        try simp only [Exit.inBlock, Exit.then]
        refine bodyPost_ret (results_tmp4 rfl _ _ _) rfl ?_
        rw [hng.out, eM.out, eE.out, eK.out]
        refine ⟨?_, by first | exact (k0.trans k2).drewN _ | exact ((k0.trans k2).drewN _).drewN _⟩
        first | rfl | (congr 2; simp; omega) | simp
      · have eM : Hid (pM b = 0) := by show _ = _; rw [HM.out, if_neg (fun h => h2 h.1)]; omega
        have eE : Hid (pE b = 0) := by show _ = _; rw [HE.out, if_neg h1, if_neg h2, if_neg h3]
        have eK : Hid (pKind b = 0) := by show _ = _; rw [HK.out, if_neg h1, if_neg h2, if_neg h3]
        have h3' : ¬ (0 : Int) < (kp : Int) := by omega
        clear HM HE HK
        go_wp2_with fail
        go_quiet (fail)
        go_simp
        go_wp2_with fail
        try simp only [Exit.inBlock, Exit.then]
        refine bodyPost_ret (results_tmp4 rfl _ _ _) rfl ?_
        rw [hng.out, eM.out, eE.out, eK.out]
        refine ⟨?_, by first | exact (k0.trans k2).drewN _ | exact ((k0.trans k2).drewN _).drewN _⟩
        first | rfl | (congr 2; simp; omega) | simp
end Go.Proofs.YtpdjpjkieafnbaaGreatDoor.Li
set_option linter.unusedVariables false
set_option linter.unusedSimpArgs false
namespace Go.Proofs.YtpdjpjkieafnbaaGreatDoor.Li
open Go.RowKit Lb
theorem f64bits (x : Nat) (w : World) : (callFunc 34 #[.float .f64 x]).run Tryz.prog w = .ok (.value (.int .u64 (x : Nat))) w := by
  rw [run_callFunc_extern Tryz.func34 (by kernel_rfl) (by kernel_rfl) (by kernel_rfl) (e := Extern.MathFloatBits.float64bits) (by kernel_rfl)]
  rfl
set_option maxRecDepth 100000 in
theorem Parts_any (b : Nat) (hb : b < 18446744073709551616) (w : World) :
    Calls Tryz.prog 62 #[.float .f64 b] w fun e w' => e = .returned (.tuple #[.bool (pNeg b), .int .u64 (pM b : Nat), .int .i64 (pE b), .int .u8 (pKind b : Nat)]) ∧ Keep w w' := by
  have h1 := binary64_any
  have h2 := fun wx => f64bits b wx
  have h3 := fun wx => parts_any b hb wx
  go_enter Tryz.func62, Tryz.ntmps62
  go_wp2_with (first | (go_at_call 44; refine (h1 _).mono ?_; rintro e w1 ⟨rfl, k1⟩) | (go_at_call 98; refine (h3 _).mono ?_; rintro e w2 ⟨rfl, k2⟩))
  try simp only [Exit.inBlock, Exit.then]
  refine bodyPost_ret (results_tmp4 rfl _ _ _) rfl ?_
  exact ⟨rfl, k1.trans k2⟩
end Go.Proofs.YtpdjpjkieafnbaaGreatDoor.Li
set_option linter.unusedVariables false
set_option linter.unusedSimpArgs false
namespace Go.Proofs.YtpdjpjkieafnbaaGreatDoor.Li
open Go.RowKit Lb Nr
set_option maxRecDepth 100000 in
theorem Wide_any (w : World) : Calls Tryz.prog 14 #[] w fun e w' => e = .returned wideV ∧ Keep w w' := by
  unfold wideV
  go_enter Tryz.func14, Tryz.ntmps14
  go_wp2_with fail
  refine bodyPost_ret (results_cell_row rfl _ _ w.heap.size 32 _ (0, 0) _ rfl (heap_alloc_new w _) Tryz.underlying32 rfl (by kernel_rfl)) rfl ?_
  exact ⟨rfl, (Keep.refl w).alloc _⟩
set_option maxRecDepth 100000 in
set_option maxHeartbeats 400000 in
theorem is_any (b : Nat) (ng inf : Bool) (M : Nat) (E : Int) (hM : M < 9007199254740992) (hE : -1074 ≤ E ∧ E ≤ 971) (hb : b = nb inf M E + sg ng) (w : World) :
    Calls Tryz.prog 15 #[.float .f64 b, numV ng inf M E] w fun e w' => e = .returned (.bool true) ∧ Keep w w' := by
  have h7 := fun wx => f64bits b wx
  have h6 := Wide_any
  have h17 := fun wx => Bits_any ng inf M E hM hE wx
  rw [← hb] at h17
  unfold numV wideV at *
  clear hb hM hE
  obtain ⟨w0, hw0, k0, tb⟩ : ∃ w0, w.alloc (Obj.cells #[.bool ng, .bool inf, .bool false, .int .u64 (M : Nat), .int .i64 E] 28) = w0 ∧ Keep w w0 ∧ w0.heap[w.heap.size]? = some (Obj.cells #[.bool ng, .bool inf, .bool false, .int .u64 (M : Nat), .int .i64 E] 28 (0, 0)) := ⟨_, rfl, (Keep.refl w).alloc _, heap_alloc_new w _⟩
  have c0 := cell_of_row _ _ 0 _ 28 (0, 0) tb
  have c1 := cell_of_row _ _ 1 _ 28 (0, 0) tb
  have c2 := cell_of_row _ _ 2 _ 28 (0, 0) tb
  have c3 := cell_of_row _ _ 3 _ 28 (0, 0) tb
  have c4 := cell_of_row _ _ 4 _ 28 (0, 0) tb
  simp only [List.getElem?_toArray, List.getElem?_cons_zero, List.getElem?_cons_succ] at c0 c1 c2 c3 c4
  go_enter Tryz.func15, Tryz.ntmps15
  go_upto_region 3 with fail
  go_region_with (first
    | (go_at_call 14; refine (h6 _).mono ?_; rintro e wz ⟨rfl, kz⟩; have z0 := Keep.cell kz c0; have z1 := Keep.cell kz c1; have z2 := Keep.cell kz c2; have z3 := Keep.cell kz c3; have z4 := Keep.cell kz c4)
    | (go_at_call 55; refine (h17 _).mono ?_; rintro e wy ⟨rfl, ky⟩))
  all_goals
    go_wp2_with fail
    go_ret
    refine ⟨by first | rfl | simp, ?_⟩
    first
      | exact (k0.drew.trans kz).trans ky
      | exact ((k0.drew.trans kz).trans ky).drew
      | exact ((k0.drew.trans kz).drew.trans ky)
      | exact (((k0.drew.trans kz).drew.trans ky)).drew
      | exact ((k0.trans kz).trans ky)
      | exact ((k0.trans kz).drew.trans ky)
      | exact ((k0.drew.drew.trans kz).trans ky)
end Go.Proofs.YtpdjpjkieafnbaaGreatDoor.Li
namespace Go.Proofs.YtpdjpjkieafnbaaGreatDoor.Li.Nw
open Go.RowKit Lb Nr
theorem f32bits (x : Nat) (w : World) : (callFunc 31 #[.float .f32 x]).run Tryz.prog w = .ok (.value (.int .u32 (x : Nat))) w := by
  rw [run_callFunc_extern Tryz.func31 (by kernel_rfl) (by kernel_rfl) (by kernel_rfl) (e := Extern.MathFloatBits.float32bits) (by kernel_rfl)]
  rfl
set_option maxRecDepth 100000 in
theorem Narrow_any (w : World) : Calls Tryz.prog 17 #[] w fun e w' => e = .returned narrowV ∧ Keep w w' := by
  unfold narrowV
  go_enter Tryz.func17, Tryz.ntmps17
  go_wp2_with fail
  refine bodyPost_ret (results_cell_row rfl _ _ w.heap.size 32 _ (0, 0) _ rfl (heap_alloc_new w _) Tryz.underlying32 rfl (by kernel_rfl)) rfl ?_
  exact ⟨rfl, (Keep.refl w).alloc _⟩
set_option maxRecDepth 100000 in
set_option maxHeartbeats 400000 in
theorem is32_any (b : Nat) (ng inf : Bool) (M : Nat) (E : Int) (hM : M < 16777216) (hE : -149 ≤ E ∧ E ≤ 104) (hbb : b < 4294967296) (hb : b = nb inf M E + sg ng) (w : World) :
    Calls Tryz.prog 18 #[.float .f32 b, numV ng inf M E] w fun e w' => e = .returned (.bool true) ∧ Keep w w' := by
  have x5 : IntKind.u64.wrap (b : Int) = (b : Int) := by rw [IntKind.wrap_u64]; omega
  have h7 := fun wx => f32bits b wx
  have h6 := Narrow_any
  have h17 := fun wx => Bits_any ng inf M E hM hE wx
  rw [← hb] at h17
  unfold numV narrowV at *
  clear hb hM hE hbb
  obtain ⟨w0, hw0, k0, tb⟩ : ∃ w0, w.alloc (Obj.cells #[.bool ng, .bool inf, .bool false, .int .u64 (M : Nat), .int .i64 E] 28) = w0 ∧ Keep w w0 ∧ w0.heap[w.heap.size]? = some (Obj.cells #[.bool ng, .bool inf, .bool false, .int .u64 (M : Nat), .int .i64 E] 28 (0, 0)) := ⟨_, rfl, (Keep.refl w).alloc _, heap_alloc_new w _⟩
  have c0 := cell_of_row _ _ 0 _ 28 (0, 0) tb
  have c1 := cell_of_row _ _ 1 _ 28 (0, 0) tb
  have c2 := cell_of_row _ _ 2 _ 28 (0, 0) tb
  have c3 := cell_of_row _ _ 3 _ 28 (0, 0) tb
  have c4 := cell_of_row _ _ 4 _ 28 (0, 0) tb
  simp only [List.getElem?_toArray, List.getElem?_cons_zero, List.getElem?_cons_succ] at c0 c1 c2 c3 c4
  go_enter Tryz.func18, Tryz.ntmps18
  go_upto_region 3 with fail
  go_region_with (first
    | (go_at_call 17; refine (h6 _).mono ?_; rintro e wz ⟨rfl, kz⟩; have z0 := Keep.cell kz c0; have z1 := Keep.cell kz c1; have z2 := Keep.cell kz c2; have z3 := Keep.cell kz c3; have z4 := Keep.cell kz c4)
    | (go_at_call 55; refine (h17 _).mono ?_; rintro e wy ⟨rfl, ky⟩))
  all_goals
    go_wp2_with fail
    go_ret
    refine ⟨by first | rfl | simp | (rw [x5]; simp) | simp [x5], ?_⟩
    first
      | exact (k0.drew.trans kz).trans ky
      | exact ((k0.drew.trans kz).trans ky).drew
      | exact ((k0.drew.trans kz).drew.trans ky)
      | exact (((k0.drew.trans kz).drew.trans ky)).drew
      | exact ((k0.trans kz).trans ky)
      | exact ((k0.trans kz).drew.trans ky)
      | exact ((k0.drew.drew.trans kz).trans ky)
end Go.Proofs.YtpdjpjkieafnbaaGreatDoor.Li.Nw
set_option linter.unusedVariables false
set_option linter.unusedSimpArgs false
namespace Go.Proofs.YtpdjpjkieafnbaaGreatDoor.Li
open Go.RowKit Lb Nr
def nanV : Value := .agg #[.bool false, .bool false, .bool true, .int .u64 0, .int .i64 0]
set_option maxRecDepth 100000 in
set_option maxHeartbeats 400000 in
theorem is_nan (w : World) : Calls Tryz.prog 15 #[.float .f64 9221120237041090560, nanV] w fun e w' => e = .returned (.bool true) ∧ Keep w w' := by
  unfold nanV
  go_enter Tryz.func15, Tryz.ntmps15
  go_wp2_with fail
  go_ret
  exact ⟨by first | rfl | kernel_rfl, (Keep.refl w).alloc _⟩
set_option maxRecDepth 100000 in
set_option maxHeartbeats 400000 in
theorem is32_nan (w : World) : Calls Tryz.prog 18 #[.float .f32 2143289344, nanV] w fun e w' => e = .returned (.bool true) ∧ Keep w w' := by
  unfold nanV
  go_enter Tryz.func18, Tryz.ntmps18
  go_wp2_with fail
  go_ret
  exact ⟨by first | rfl | kernel_rfl, (Keep.refl w).alloc _⟩
end Go.Proofs.YtpdjpjkieafnbaaGreatDoor.Li
