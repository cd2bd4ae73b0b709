import Derived.Test.YtpdjpjkieafnbaaGreatDoorR14
import Derived.Test.YtpdjpjkieafnbaaGreatDoorQQ3
set_option linter.unusedVariables false
set_option linter.unusedSimpArgs false
namespace Go.Proofs.YtpdjpjkieafnbaaGreatDoor.Li
open Go.RowKit Lb Nr
set_option maxRecDepth 100000 in
set_option maxHeartbeats 800000 in
theorem FU_in (u : Nat) (w : World) (hu : u < 100) :
    Calls Tryz.prog 146 #[.int .u64 (u : Int), .int .i64 10] w fun e w' => e = .returned (.string ⟨(Lib.decDigits u).toArray⟩) ∧ Keep w w' := by
  have h := fun wx => Tryz.internal_strconv_small u hu wx
  go_enter Tryz.func146, Tryz.ntmps146
  go_wp2_with (go_at_call 173; refine (h _).mono ?_; rintro e w2 ⟨rfl, rfl⟩)
  go_ret
  exact ⟨rfl, Keep.refl _⟩
set_option maxRecDepth 100000 in
theorem FU_few (u : Nat) (w : World) (hu : u < 100) :
    Calls Tryz.prog 101 #[.int .u64 (u : Int), .int .i64 10] w fun e w' => e = .returned (.string ⟨(Lib.decDigits u).toArray⟩) ∧ Keep w w' := by
  have h := FU_in u w hu
  generalize Lib.decDigits u = l at h ⊢
  go_enter Tryz.func101, Tryz.ntmps101
  go_wp2_with (go_at_call 146; refine h.mono ?_; rintro e w2 ⟨rfl, k2⟩)
  go_ret
  exact ⟨rfl, k2⟩
/-- How a number without digits is written. -/
def nmS (k : Nat) : List UInt8 := if k = 0 then [48] else if k = 3 then [105, 110, 102] else if k = 4 then [110, 97, 110] else []
set_option maxHeartbeats 400000 in
theorem named_any (k : Nat) (hk : k ≤ 4) (w : World) : Calls Tryz.prog 63 #[.int .u8 (k : Nat)] w fun e w' => e = .returned (.string ⟨(nmS k).toArray⟩) ∧ w = w' := by
  have h : k = 0 ∨ k = 1 ∨ k = 2 ∨ k = 3 ∨ k = 4 := by omega
  rcases h with rfl | rfl | rfl | rfl | rfl
  all_goals
    go_enter Tryz.func63, Tryz.ntmps63
    go_wp2_with fail
    go_ret
    exact ⟨rfl, rfl⟩
/-- A sign ahead. -/
def sgS (ng : Bool) (s : List UInt8) : List UInt8 := (if ng then [45] else []) ++ s
set_option maxRecDepth 100000 in
set_option maxHeartbeats 400000 in
theorem signedF_any (ng : Bool) (k : Nat) (s : List UInt8) (hk : k < 4) (hs : s.length ≤ 100000) (w : World) : Calls Tryz.prog 64 #[.bool ng, .int .u8 (k : Nat), .string ⟨s.toArray⟩] w fun e w' => e = .returned (.string ⟨(sgS ng s).toArray⟩) ∧ w = w' := by
  have hkb : ((k : Int) != 4) = true := by simp; omega
  have s1 : (ByteArray.mk s.toArray).size = s.length := sz_mk s
  have hc : (⟨#[45]⟩ : ByteArray) ++ ByteArray.mk s.toArray = ⟨([45] ++ s).toArray⟩ := catB [45] s
  cases ng with
  | true =>
    have hb : ((⟨#[45]⟩ : ByteArray) ++ ByteArray.mk s.toArray).size ≤ 100001 := by rw [ByteArray.size_append, s1]; show 1 + _ ≤ _; omega
    have HC : Hid ((⟨#[45]⟩ : ByteArray) ++ ByteArray.mk s.toArray = ⟨([45] ++ s).toArray⟩) := hc
    clear hc
    go_enter Tryz.func64, Tryz.ntmps64
    go_wp2_with fail
    all_goals go_ret
    all_goals exact ⟨congrArg (fun x => Ending.returned (Value.string x)) HC.out, rfl⟩
  | false =>
    clear hc
    go_enter Tryz.func64, Tryz.ntmps64
    go_wp2_with fail
    go_ret
    exact ⟨rfl, rfl⟩
set_option maxRecDepth 100000 in
set_option maxHeartbeats 400000 in
theorem withSign_nought (w : World) : Calls Tryz.prog 111 #[.int .i64 0] w fun e w' => e = .returned (.string ⟨#[43, 48]⟩) ∧ w = w' := by
  have h := Tryz.strconv_Itoa_small 0 (by omega) w
  have e0 : (Lib.decDigits 0).toArray = #[48] := by rw [Lib.decDigits]; rfl
  rw [e0] at h
  go_enter Tryz.func111, Tryz.ntmps111
  go_wp2_with fail
  refine h.mono ?_
  rintro e w2 ⟨rfl, hw⟩
  rw [hw]
  go_wp2_with fail
  go_ret
  exact ⟨rfl, rfl⟩
set_option maxRecDepth 100000 in
set_option maxHeartbeats 800000 in
theorem hexDigits_one (w : World) : Calls Tryz.prog 67 #[.int .u64 4503599627370496, .int .i64 (-52)] w fun e w' => e = .returned (.string ⟨#[48, 120, 49, 112, 43, 48]⟩) ∧ Keep w w' := by
  have hb := fun wx => binary64_any wx
  have hF := fun wx => FU_few 1 wx (by omega)
  have e1 : (Lib.decDigits 1).toArray = #[49] := by rw [Lib.decDigits]; rfl
  rw [e1] at hF
  have hS := fun wx => withSign_nought wx
  go_enter Tryz.func67, Tryz.ntmps67
  go_wp2_with fail
  refine (hb _).mono ?_
  rintro e w1 ⟨rfl, k1⟩
  obtain ⟨w2, hw2⟩ : ∃ w2, w1.alloc (.cells #[.int .i64 52, .int .i64 2047, .int .i64 (-1074)] 85) = w2 := ⟨_, rfl⟩
  have F2 : Fm w2 w1.heap.size := by rw [← hw2]; exact Fm.new w1
  have k2 : Keep w1 w2 := by rw [← hw2]; exact (Keep.refl w1).alloc _
  obtain ⟨f0, f1, f2⟩ := F2.cells
  go_wp2_with fail
  refine (hF _).mono ?_
  rintro e w3 ⟨rfl, k3⟩
  obtain ⟨g0, g1, g2⟩ := (F2.keep k3).cells
  go_wp2_with fail
  refine (hS _).mono ?_
  rintro e w4 ⟨rfl, rfl⟩
  go_wp2_with fail
  go_ret
  exact ⟨rfl, (k1.trans k2).trans k3⟩
set_option maxRecDepth 100000 in
set_option maxHeartbeats 800000 in
theorem Hex_one (w : World) : Calls Tryz.prog 25 #[.float .f64 4607182418800017408] w fun e w' => e = .returned (.string ⟨#[48, 120, 49, 112, 43, 48]⟩) ∧ Keep w w' := by
  have hP := Parts_any 4607182418800017408 (by omega) w
  rw [show pNeg 4607182418800017408 = false by decide, show pM 4607182418800017408 = 4503599627370496 by decide, show pE 4607182418800017408 = -52 by decide, show pKind 4607182418800017408 = 2 by decide] at hP
  have hH := fun wx => hexDigits_one wx
  have hS := fun wx => signedF_any false 2 [48, 120, 49, 112, 43, 48] (by omega) (by decide) wx
  rw [show sgS false [48, 120, 49, 112, 43, 48] = [48, 120, 49, 112, 43, 48] by rfl] at hS
  go_enter Tryz.func25, Tryz.ntmps25
  go_wp2_with fail
  refine hP.mono ?_
  rintro e w1 ⟨rfl, k1⟩
  go_wp2_with fail
  refine (hH _).mono ?_
  rintro e w2 ⟨rfl, k2⟩
  go_wp2_with fail
  refine (hS _).mono ?_
  rintro e w3 ⟨rfl, rfl⟩
  go_wp2_with fail
  go_ret
  exact ⟨rfl, k1.trans k2⟩
end Go.Proofs.YtpdjpjkieafnbaaGreatDoor.Li
