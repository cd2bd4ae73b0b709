import Derived.Test.YtpdjpjkieafnbaaGreatDoorProg
import Derived.Test.YtpdjpjkieafnbaaGreatDoorNC10
import Derived.Test.YtpdjpjkieafnbaaGreatDoorNB2
import Derived.WalkKit
import Derived.WalkSpells
import Derived.WalkLawsBesides
import Derived.Laws.CopyOwn
import Derived.Deep.Draws
import Derived.Deep.QuietTactic
import Derived.BigQuiet
import Derived.Laws.MathBits
import Derived.Laws.Externs
import Derived.Test.YtpdjpjkieafnbaaGreatDoorR14
set_option linter.unusedVariables false
set_option linter.unusedSimpArgs false
namespace Go.Proofs.YtpdjpjkieafnbaaGreatDoor.Li
open Go.RowKit Lb
/-- The parts of a binary64's bits. -/
def pKept (b : Nat) : Nat := b % 4503599627370496
def pField (b : Nat) : Nat := b / 4503599627370496 % 2048
def pNeg (b : Nat) : Bool := decide (9223372036854775808 ≤ b)
def pM (b : Nat) : Nat := if 0 < pField b ∧ pField b < 2047 then 4503599627370496 + pKept b else pKept b
def pE (b : Nat) : Int := if pField b = 2047 then 0 else if 0 < pField b then -1074 + (pField b : Int) - 1 else if 0 < pKept b then -1074 else 0
def pKind (b : Nat) : Nat := if pField b = 2047 then (if pKept b = 0 then 3 else 4) else if 0 < pField b then 2 else if 0 < pKept b then 1 else 0
theorem results_tmp4 {fn : Func} {t u v x : Tmp} (h : fn.results = #[.tmp t, .tmp u, .tmp v, .tmp x]) (tmps : Array Value) (P : Program) (w : World) :
    (results fn tmps).run P w = .ok (.tuple #[tmps.getD t undef, tmps.getD u undef, tmps.getD v undef, tmps.getD x undef]) w := by
  simp [results, h, List.mapM_cons]
theorem and52 (b : Nat) (hb : b < 18446744073709551616) : bits .and .u64 (b : Int) 4503599627370495 = ((pKept b : Nat) : Int) := by
  have := u64_and_nat b 4503599627370495 hb (by omega)
  rw [show b &&& 4503599627370495 = b % 4503599627370496 from Nat.and_two_pow_sub_one_eq_mod b 52] at this
  exact this
theorem and63 (b : Nat) (hb : b < 18446744073709551616) : (bits .and .u64 (b : Int) 9223372036854775808 != 0) = pNeg b := by
  have h := u64_and_nat b 9223372036854775808 hb (by omega)
  have e1 : (b &&& 9223372036854775808) / 9223372036854775808 = b / 9223372036854775808 % 2 := by
    have := Nat.and_div_two_pow (a := b) (b := 9223372036854775808) (n := 63)
    have h2 : b / 2 ^ 63 &&& 9223372036854775808 / 2 ^ 63 = b / 2 ^ 63 % 2 := Nat.and_one_is_mod _
    exact this.trans h2
  have e2 : (b &&& 9223372036854775808) % 9223372036854775808 = 0 := by
    have := Nat.and_mod_two_pow (a := b) (b := 9223372036854775808) (n := 63)
    have h2 : (b % 2 ^ 63) &&& (9223372036854775808 % 2 ^ 63) = 0 := Nat.and_zero _
    exact this.trans h2
  have h' : bits .and .u64 (b : Int) 9223372036854775808 = ((b &&& 9223372036854775808 : Nat) : Int) := h
  rw [h']
  generalize b &&& 9223372036854775808 = y at *
  unfold pNeg
  rw [Bool.eq_iff_iff]
  simp only [bne_iff_ne, ne_eq, decide_eq_true_eq]
  omega
theorem andTop (b : Nat) (hb : b < 18446744073709551616) : bits .and .i64 ((b : Int) / 4503599627370496) 2047 = ((pField b : Nat) : Int) := by
  have e : (b : Int) / 4503599627370496 = ((b / 4503599627370496 : Nat) : Int) := by omega
  rw [e]
  show IntKind.i64.wrap ((BitVec.ofInt 64 ((b / 4503599627370496 : Nat) : Int) &&& BitVec.ofInt 64 ((2047 : Nat) : Int)).toNat : Int) = _
  rw [BitVec.toNat_and, ofInt_u64 _ (by omega), ofInt_u64 _ (by omega), show b / 4503599627370496 &&& 2047 = b / 4503599627370496 % 2048 from Nat.and_two_pow_sub_one_eq_mod _ 11, IntWalk.i64_left]
  exact IntWalk.wrap64_in _ (by omega)
theorem or52 (y : Nat) (hy : y < 4503599627370496) : bits .or .u64 4503599627370496 (y : Int) = ((4503599627370496 + y : Nat) : Int) := by
  have h := u64_or_nat 4503599627370496 y (by omega) (by omega)
  have e : 4503599627370496 ||| y = 4503599627370496 + y := (Nat.two_pow_add_eq_or_of_lt (i := 52) hy 1).symm
  rw [e] at h
  exact h
set_option maxRecDepth 100000 in
set_option maxHeartbeats 1000000 in
theorem parts_any (b : Nat) (hb : b < 18446744073709551616) (w : World) :
    Calls Tryz.prog 98 #[.agg #[.int .i64 52, .int .i64 2047, .int .i64 (-1074)], .int .u64 (b : Nat)] w fun e w' => e = .returned (.tuple #[.bool (pNeg b), .int .u64 (pM b : Nat), .int .i64 (pE b), .int .u8 (pKind b : Nat)]) ∧ Keep w w' := by
  have hS := signBit_any
  obtain ⟨w1, hw1, k0, tb⟩ : ∃ w1, w.alloc (Obj.cells #[Value.int IntKind.i64 52, Value.int IntKind.i64 2047, Value.int IntKind.i64 (-1074)] 85) = w1 ∧ Keep w w1 ∧ w1.heap[w.heap.size]? = some (Obj.cells #[Value.int IntKind.i64 52, Value.int IntKind.i64 2047, Value.int IntKind.i64 (-1074)] 85 (0, 0)) := ⟨_, rfl, (Keep.refl w).alloc _, heap_alloc_new w _⟩
  have b0 := cell_of_row _ _ 0 _ 85 (0, 0) tb
  have b1 := cell_of_row _ _ 1 _ 85 (0, 0) tb
  have b2 := cell_of_row _ _ 2 _ 85 (0, 0) tb
  simp only [List.getElem?_toArray, List.getElem?_cons_zero, List.getElem?_cons_succ] at b0 b1 b2
  replace hw1 : Hid _ := hw1
  clear tb
  go_enter Tryz.func98, Tryz.ntmps98
  go_wp2_with fail
  rw [hw1.out]
  refine (hS _).mono ?_
  rintro e w2 ⟨rfl, k2⟩
  have b0 := k2.cell b0
  have b1 := k2.cell b1
  have b2 := k2.cell b2
  have h52 := and52 b hb
  have h63 := and63 b hb
  have hTp := andTop b hb
  have ho := or52 (pKept b) (Nat.mod_lt _ (by omega))
  have hkl : pKept b < 4503599627370496 := Nat.mod_lt _ (by omega)
  have hfl : pField b < 2048 := Nat.mod_lt _ (by omega)
  have HM : Hid (pM b = if 0 < pField b ∧ pField b < 2047 then 4503599627370496 + pKept b else pKept b) := rfl
  have HE : Hid (pE b = if pField b = 2047 then 0 else if 0 < pField b then -1074 + (pField b : Int) - 1 else if 0 < pKept b then -1074 else 0) := rfl
  have HK : Hid (pKind b = if pField b = 2047 then (if pKept b = 0 then 3 else 4) else if 0 < pField b then 2 else if 0 < pKept b then 1 else 0) := rfl
  replace HM : Hid _ := HM
  have EN : Hid (∃ n, pNeg b = n) := ⟨_, rfl⟩
  generalize hng : pNeg b = ng at h63
  replace hng : Hid _ := hng
  generalize pField b = f at *
  generalize pKept b = kp at *
  by_cases h1 : f = 2047
  · by_cases h2 : kp = 0
    · have eM : Hid (pM b = 0) := by show _ = _; rw [HM.out, h1, h2]; rfl
      have eE : Hid (pE b = 0) := by show _ = _; rw [HE.out, h1]; rfl
      have eK : Hid (pKind b = 3) := by show _ = _; rw [HK.out, h1, h2]; rfl
      subst h1 h2
      clear HM HE HK
      go_wp2_with fail
      go_quiet (fail)
      go_simp
      go_wp2_with fail
      try simp only [Exit.inBlock, Exit.then]
      refine bodyPost_ret (results_tmp4 rfl _ _ _) rfl ?_
      rw [hng.out, eM.out, eE.out, eK.out]
      refine ⟨?_, by first | exact (k0.trans k2).drewN _ | exact ((k0.trans k2).drewN _).drewN _⟩
      first | rfl | (congr 2; simp; omega) | simp
    · have eM : Hid (pM b = kp) := by show _ = _; rw [HM.out, h1]; rfl
      have eE : Hid (pE b = 0) := by show _ = _; rw [HE.out, h1]; rfl
      have eK : Hid (pKind b = 4) := by show _ = _; rw [HK.out, h1, if_pos rfl, if_neg h2]
      have h3 : ((kp : Int) == 0) = false := by rw [beq_eq_false_iff_ne]; omega
      subst h1
      clear HM HE HK
      go_wp2_with fail
      go_quiet (fail)
      go_simp
      go_wp2_with fail
      try simp only [Exit.inBlock, Exit.then]
      refine bodyPost_ret (results_tmp4 rfl _ _ _) rfl ?_
      rw [hng.out, eM.out, eE.out, eK.out]
      refine ⟨?_, by first | exact (k0.trans k2).drewN _ | exact ((k0.trans k2).drewN _).drewN _⟩
      first | rfl | (congr 2; simp; omega) | simp
  · have h1' : ((f : Int) == 2047) = false := by rw [beq_eq_false_iff_ne]; omega
    by_cases h2 : 0 < f
    · have eM : Hid (pM b = 4503599627370496 + kp) := by show _ = _; rw [HM.out, if_pos ⟨h2, by omega⟩]
      have eE : Hid (pE b = -1074 + (f : Int) - 1) := by show _ = _; rw [HE.out, if_neg h1, if_pos h2]
      have eK : Hid (pKind b = 2) := by show _ = _; rw [HK.out, if_neg h1, if_pos h2]
      have h2' : (0 : Int) < (f : Int) := by omega
      clear HM HE HK
      go_wp2_with fail
      go_quiet (fail)
      go_simp
      go_wp2_with fail
      go_quiet (fail)
      go_simp
      go_wp2_with fail
      try simp only [Exit.inBlock, Exit.then]
      refine bodyPost_ret (results_tmp4 rfl _ _ _) rfl ?_
      rw [hng.out, eM.out, eE.out, eK.out]
      refine ⟨?_, by first | exact (k0.trans k2).drewN _ | exact ((k0.trans k2).drewN _).drewN _⟩
      first | rfl | (congr 2; simp; omega) | simp
    · have h2' : ¬ (0 : Int) < (f : Int) := by omega
      by_cases h3 : 0 < kp
      · have eM : Hid (pM b = kp) := by show _ = _; rw [HM.out, if_neg (fun h => h2 h.1)]
        have eE : Hid (pE b = -1074) := by show _ = _; rw [HE.out, if_neg h1, if_neg h2, if_pos h3]
        have eK : Hid (pKind b = 1) := by show _ = _; rw [HK.out, if_neg h1, if_neg h2, if_pos h3]
        have h3' : (0 : Int) < (kp : Int) := by omega
        clear HM HE HK
        go_wp2_with fail
        go_quiet (fail)
        go_simp
        go_wp2_with fail
        go_quiet (fail)
        go_simp
        go_wp2_with fail
        try simp only [Exit.inBlock, Exit.then]
        refine bodyPost_ret (results_tmp4 rfl _ _ _) rfl ?_
        rw [hng.out, eM.out, eE.out, eK.out]
        refine ⟨?_, by first | exact (k0.trans k2).drewN _ | exact ((k0.trans k2).drewN _).drewN _⟩
        first | rfl | (congr 2; simp; omega) | simp
      · have eM : Hid (pM b = 0) := by show _ = _; rw [HM.out, if_neg (fun h => h2 h.1)]; omega
        have eE : Hid (pE b = 0) := by show _ = _; rw [HE.out, if_neg h1, if_neg h2, if_neg h3]
        have eK : Hid (pKind b = 0) := by show _ = _; rw [HK.out, if_neg h1, if_neg h2, if_neg h3]
        have h3' : ¬ (0 : Int) < (kp : Int) := by omega
        clear HM HE HK
        go_wp2_with fail
        go_quiet (fail)
        go_simp
        go_wp2_with fail
        try simp only [Exit.inBlock, Exit.then]
        refine bodyPost_ret (results_tmp4 rfl _ _ _) rfl ?_
        rw [hng.out, eM.out, eE.out, eK.out]
        refine ⟨?_, by first | exact (k0.trans k2).drewN _ | exact ((k0.trans k2).drewN _).drewN _⟩
        first | rfl | (congr 2; simp; omega) | simp
end Go.Proofs.YtpdjpjkieafnbaaGreatDoor.Li
set_option linter.unusedVariables false
set_option linter.unusedSimpArgs false
namespace Go.Proofs.YtpdjpjkieafnbaaGreatDoor.Li
open Go.RowKit Lb
theorem f64bits (x : Nat) (w : World) : (callFunc 34 #[.float .f64 x]).run Tryz.prog w = .ok (.value (.int .u64 (x : Nat))) w := by
  rw [run_callFunc_extern Tryz.func34 (by kernel_rfl) (by kernel_rfl) (by kernel_rfl) (e := Extern.MathFloatBits.float64bits) (by kernel_rfl)]
  rfl
set_option maxRecDepth 100000 in
theorem Parts_any (b : Nat) (hb : b < 18446744073709551616) (w : World) :
    Calls Tryz.prog 62 #[.float .f64 b] w fun e w' => e = .returned (.tuple #[.bool (pNeg b), .int .u64 (pM b : Nat), .int .i64 (pE b), .int .u8 (pKind b : Nat)]) ∧ Keep w w' := by
  have h1 := binary64_any
  have h2 := fun wx => f64bits b wx
  have h3 := fun wx => parts_any b hb wx
  go_enter Tryz.func62, Tryz.ntmps62
  go_wp2_with (first | (go_at_call 44; refine (h1 _).mono ?_; rintro e w1 ⟨rfl, k1⟩) | (go_at_call 98; refine (h3 _).mono ?_; rintro e w2 ⟨rfl, k2⟩))
  try simp only [Exit.inBlock, Exit.then]
  refine bodyPost_ret (results_tmp4 rfl _ _ _) rfl ?_
  exact ⟨rfl, k1.trans k2⟩
end Go.Proofs.YtpdjpjkieafnbaaGreatDoor.Li
set_option linter.unusedVariables false
set_option linter.unusedSimpArgs false
namespace Go.Proofs.YtpdjpjkieafnbaaGreatDoor.Li
open Go.RowKit Lb Nr
set_option maxRecDepth 100000 in
set_option maxHeartbeats 800000 in
theorem FU_in (u : Nat) (w : World) (hu : u < 100) :
    Calls Tryz.prog 146 #[.int .u64 (u : Int), .int .i64 10] w fun e w' => e = .returned (.string ⟨(Lib.decDigits u).toArray⟩) ∧ Keep w w' := by
  have h := fun wx => Tryz.internal_strconv_small u hu wx
  go_enter Tryz.func146, Tryz.ntmps146
  go_wp2_with (go_at_call 173; refine (h _).mono ?_; rintro e w2 ⟨rfl, rfl⟩)
  go_ret
  exact ⟨rfl, Keep.refl _⟩
set_option maxRecDepth 100000 in
theorem FU_few (u : Nat) (w : World) (hu : u < 100) :
    Calls Tryz.prog 101 #[.int .u64 (u : Int), .int .i64 10] w fun e w' => e = .returned (.string ⟨(Lib.decDigits u).toArray⟩) ∧ Keep w w' := by
  have h := FU_in u w hu
  generalize Lib.decDigits u = l at h ⊢
  go_enter Tryz.func101, Tryz.ntmps101
  go_wp2_with (go_at_call 146; refine h.mono ?_; rintro e w2 ⟨rfl, k2⟩)
  go_ret
  exact ⟨rfl, k2⟩
/-- How a number without digits is written. -/
def nmS (k : Nat) : List UInt8 := if k = 0 then [48] else if k = 3 then [105, 110, 102] else if k = 4 then [110, 97, 110] else []
set_option maxHeartbeats 400000 in
theorem named_any (k : Nat) (hk : k ≤ 4) (w : World) : Calls Tryz.prog 63 #[.int .u8 (k : Nat)] w fun e w' => e = .returned (.string ⟨(nmS k).toArray⟩) ∧ w = w' := by
  have h : k = 0 ∨ k = 1 ∨ k = 2 ∨ k = 3 ∨ k = 4 := by omega
  rcases h with rfl | rfl | rfl | rfl | rfl
  all_goals
    go_enter Tryz.func63, Tryz.ntmps63
    go_wp2_with fail
    go_ret
    exact ⟨rfl, rfl⟩
/-- A sign ahead. -/
def sgS (ng : Bool) (s : List UInt8) : List UInt8 := (if ng then [45] else []) ++ s
set_option maxRecDepth 100000 in
set_option maxHeartbeats 400000 in
theorem signedF_any (ng : Bool) (k : Nat) (s : List UInt8) (hk : k < 4) (hs : s.length ≤ 100000) (w : World) : Calls Tryz.prog 64 #[.bool ng, .int .u8 (k : Nat), .string ⟨s.toArray⟩] w fun e w' => e = .returned (.string ⟨(sgS ng s).toArray⟩) ∧ w = w' := by
  have hkb : ((k : Int) != 4) = true := by simp; omega
  have s1 : (ByteArray.mk s.toArray).size = s.length := sz_mk s
  have hc : (⟨#[45]⟩ : ByteArray) ++ ByteArray.mk s.toArray = ⟨([45] ++ s).toArray⟩ := catB [45] s
  cases ng with
  | true =>
    have hb : ((⟨#[45]⟩ : ByteArray) ++ ByteArray.mk s.toArray).size ≤ 100001 := by rw [ByteArray.size_append, s1]; show 1 + _ ≤ _; omega
    have HC : Hid ((⟨#[45]⟩ : ByteArray) ++ ByteArray.mk s.toArray = ⟨([45] ++ s).toArray⟩) := hc
    clear hc
    go_enter Tryz.func64, Tryz.ntmps64
    go_wp2_with fail
    all_goals go_ret
    all_goals exact ⟨congrArg (fun x => Ending.returned (Value.string x)) HC.out, rfl⟩
  | false =>
    clear hc
    go_enter Tryz.func64, Tryz.ntmps64
    go_wp2_with fail
    go_ret
    exact ⟨rfl, rfl⟩
end Go.Proofs.YtpdjpjkieafnbaaGreatDoor.Li
