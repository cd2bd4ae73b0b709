import Derived.Test.YtgjhbolnnnibkaaGreatDoorProg
import Derived.Test.YtgjhbolnnnibkaaGreatDoorFT8
import Derived.WalkKit
import Derived.WalkSpells
import Derived.WalkLawsBesides
import Derived.Deep.Draws
import Derived.Deep.QuietTactic
import Derived.Laws.Externs
import Derived.Shelf.Abstract
import Derived.Below
import Derived.Deep.RegionLaw
import Derived.Laws.CopyOwn
import Derived.BigRegion
import Derived.BigQuiet
import Derived.Deep.RegionHeld3
import Derived.Lib.Bytealg
import Derived.Laws.RangeString
import Derived.Laws.RangeAny
import Derived.Lib.OthersKept
import Derived.Deep.LoopGhost
import Derived.Shelf.Strings.Trim
import Derived.Shelf.Small.Strs
import Derived.Shelf.Strings.Search1
import Derived.Shelf.Strings.Repeat
set_option linter.unusedVariables false
set_option linter.unusedSimpArgs false
namespace Go.Proofs.YtgjhbolnnnibkaaGreatDoor
open Go.RowKit Go.Shelf
theorem catB (a b : List UInt8) : (ByteArray.mk a.toArray) ++ (ByteArray.mk b.toArray) = ⟨(a ++ b).toArray⟩ := by
  apply ByteArray.ext
  simp
theorem tl_of (a b : List UInt8) (wx : World) : Calls Tryz.prog 102 #[.string ((ByteArray.mk a.toArray) ++ (ByteArray.mk b.toArray)), .string ⟨#[48]⟩] wx fun e w' => e = .returned (.string ⟨(tl0 (a ++ b)).toArray⟩) ∧ w' = wx := by
  have h := Tryz.strings_TrimLeft_one ⟨(a ++ b).toArray⟩ 48 (by decide) wx
  rw [catB]
  have e2 : (ByteArray.mk (a ++ b).toArray).data.toList = a ++ b := dt_mk _
  rw [e2] at h
  exact h
theorem tr_of (a : List UInt8) (ha : a.length ≤ 100000) (wx : World) : Calls Tryz.prog 63 #[.string ⟨a.toArray⟩, .string ⟨#[48]⟩] wx fun e w' => e = .returned (.string ⟨(tr0 a).toArray⟩) ∧ w' = wx := by
  have h := Tryz.strings_TrimRight_one ⟨a.toArray⟩ 48 (by decide) wx (by rw [sz_mk]; omega)
  have e2 : (ByteArray.mk a.toArray).data.toList = a := dt_mk _
  rw [e2] at h
  exact h
theorem rep0 (k : Nat) : Lib.repeatL [48] k = List.replicate k 48 := by
  induction k with
  | zero => rfl
  | succ k ih => rw [List.replicate_succ, Lib.repeatL, ih]; rfl
theorem rp_of (k : Nat) (hk : k ≤ 100000) (wx : World) : Calls Tryz.prog 72 #[.string ⟨#[48]⟩, .int .i64 (k : Int)] wx fun e w' => e = .returned (.string ⟨(List.replicate k 48).toArray⟩) ∧ Keep wx w' := by
  have h := Tryz.strings_Repeat ⟨#[48]⟩ k wx (by omega) (by show 1 * k ≤ _; omega)
  have e2 : (ByteArray.mk #[48]).data.toList = [48] := rfl
  rw [e2, rep0] at h
  exact h
set_option maxRecDepth 100000 in
set_option maxHeartbeats 2000000 in
theorem millionths_zero (ng : Bool) (wh pt : List UInt8) (P : Int) (w : World) (hl : wh.length + pt.length ≤ 4096) (hP : -1048576 ≤ P ∧ P ≤ 1048576) (ds : List UInt8) (hds : tl0 (wh ++ pt) = ds) (S : Int) (hS : (ds.length : Int) - pt.length + P + 6 = S) (h0 : ds = []) :
    Calls Tryz.prog 66 #[.agg (dcl ng wh pt P)] w fun e w' => e = .returned (.tuple #[.int .i64 0, .int .i64 0]) ∧ Keep w w' := by
  have hTL := fun wx => tl_of wh pt wx
  rw [hds] at hTL
  have hdl : ds.length ≤ 4096 := by have := tl0_len (wh ++ pt); rw [hds, List.length_append] at this; omega
  have s1 : (ByteArray.mk ds.toArray).size = ds.length := sz_mk ds
  have s2 : (ByteArray.mk pt.toArray).size = pt.length := sz_mk pt
  obtain ⟨D, hD⟩ : ∃ D, ds.length = D := ⟨_, rfl⟩
  obtain ⟨Q, hQ⟩ : ∃ Q, pt.length = Q := ⟨_, rfl⟩
  rw [hD] at s1 hdl hS
  rw [hQ] at s2 hS hl
  obtain ⟨hP1, hP2⟩ := hP
  have hQ4 : Q ≤ 4096 := by omega
  have x1 : IntKind.i64.wrap ((D : Int) - (Q : Int)) = (D : Int) - (Q : Int) := by rw [IntWalk.i64_left]; exact IntWalk.wrap64_in _ (by omega)
  have x2 : IntKind.i64.wrap ((D : Int) - (Q : Int) + P) = (D : Int) - (Q : Int) + P := by rw [IntWalk.i64_left]; exact IntWalk.wrap64_in _ (by omega)
  have x3 : IntKind.i64.wrap ((D : Int) - (Q : Int) + P + 6) = S := by rw [IntWalk.i64_left, hS]; exact IntWalk.wrap64_in _ (by omega)
  have hde : (ds == []) = true := by simpa using h0
  unfold dcl
  clear hds h0
  go_enter Tryz.func66, Tryz.ntmps66
  go_wp2_with (go_at_call 102; refine (hTL _).mono ?_; rintro e w2 ⟨rfl, rfl⟩)
  all_goals (go_ret2; exact ⟨rfl, (Keep.refl w).alloc _⟩)
set_option maxRecDepth 100000 in
set_option maxHeartbeats 2000000 in
theorem millionths_far (ng : Bool) (wh pt : List UInt8) (P : Int) (w : World) (hl : wh.length + pt.length ≤ 4096) (hP : -1048576 ≤ P ∧ P ≤ 1048576) (ds : List UInt8) (hds : tl0 (wh ++ pt) = ds) (S : Int) (hS : (ds.length : Int) - pt.length + P + 6 = S) (h0 : ds ≠ []) (hSn : S < 0) :
    Calls Tryz.prog 66 #[.agg (dcl ng wh pt P)] w fun e w' => e = .returned (.tuple #[.int .i64 0, .int .i64 0]) ∧ Keep w w' := by
  have hTL := fun wx => tl_of wh pt wx
  rw [hds] at hTL
  have hdl : ds.length ≤ 4096 := by have := tl0_len (wh ++ pt); rw [hds, List.length_append] at this; omega
  have s1 : (ByteArray.mk ds.toArray).size = ds.length := sz_mk ds
  have s2 : (ByteArray.mk pt.toArray).size = pt.length := sz_mk pt
  obtain ⟨D, hD⟩ : ∃ D, ds.length = D := ⟨_, rfl⟩
  obtain ⟨Q, hQ⟩ : ∃ Q, pt.length = Q := ⟨_, rfl⟩
  rw [hD] at s1 hdl hS
  rw [hQ] at s2 hS hl
  obtain ⟨hP1, hP2⟩ := hP
  have hQ4 : Q ≤ 4096 := by omega
  have x1 : IntKind.i64.wrap ((D : Int) - (Q : Int)) = (D : Int) - (Q : Int) := by rw [IntWalk.i64_left]; exact IntWalk.wrap64_in _ (by omega)
  have x2 : IntKind.i64.wrap ((D : Int) - (Q : Int) + P) = (D : Int) - (Q : Int) + P := by rw [IntWalk.i64_left]; exact IntWalk.wrap64_in _ (by omega)
  have x3 : IntKind.i64.wrap ((D : Int) - (Q : Int) + P + 6) = S := by rw [IntWalk.i64_left, hS]; exact IntWalk.wrap64_in _ (by omega)
  have hde : (ds == []) = false := by simpa using h0
  unfold dcl
  clear hds h0
  go_enter Tryz.func66, Tryz.ntmps66
  go_wp2_with (go_at_call 102; refine (hTL _).mono ?_; rintro e w2 ⟨rfl, rfl⟩)
  all_goals (go_ret2; exact ⟨rfl, (Keep.refl w).alloc _⟩)
set_option maxRecDepth 100000 in
set_option maxHeartbeats 2000000 in
theorem millionths_big (ng : Bool) (wh pt : List UInt8) (P : Int) (w : World) (hl : wh.length + pt.length ≤ 4096) (hP : -1048576 ≤ P ∧ P ≤ 1048576) (ds : List UInt8) (hds : tl0 (wh ++ pt) = ds) (S : Int) (hS : (ds.length : Int) - pt.length + P + 6 = S) (h0 : ds ≠ []) (hSn : 19 < S) :
    Calls Tryz.prog 66 #[.agg (dcl ng wh pt P)] w fun e w' => e = .returned (.tuple #[.int .i64 0, .int .i64 41]) ∧ Keep w w' := by
  have hTL := fun wx => tl_of wh pt wx
  rw [hds] at hTL
  have hdl : ds.length ≤ 4096 := by have := tl0_len (wh ++ pt); rw [hds, List.length_append] at this; omega
  have s1 : (ByteArray.mk ds.toArray).size = ds.length := sz_mk ds
  have s2 : (ByteArray.mk pt.toArray).size = pt.length := sz_mk pt
  obtain ⟨D, hD⟩ : ∃ D, ds.length = D := ⟨_, rfl⟩
  obtain ⟨Q, hQ⟩ : ∃ Q, pt.length = Q := ⟨_, rfl⟩
  rw [hD] at s1 hdl hS
  rw [hQ] at s2 hS hl
  obtain ⟨hP1, hP2⟩ := hP
  have hQ4 : Q ≤ 4096 := by omega
  have x1 : IntKind.i64.wrap ((D : Int) - (Q : Int)) = (D : Int) - (Q : Int) := by rw [IntWalk.i64_left]; exact IntWalk.wrap64_in _ (by omega)
  have x2 : IntKind.i64.wrap ((D : Int) - (Q : Int) + P) = (D : Int) - (Q : Int) + P := by rw [IntWalk.i64_left]; exact IntWalk.wrap64_in _ (by omega)
  have x3 : IntKind.i64.wrap ((D : Int) - (Q : Int) + P + 6) = S := by rw [IntWalk.i64_left, hS]; exact IntWalk.wrap64_in _ (by omega)
  have hde : (ds == []) = false := by simpa using h0
  have hSp : ¬ S < 0 := by omega
  unfold dcl
  clear hds h0
  go_enter Tryz.func66, Tryz.ntmps66
  go_wp2_with (go_at_call 102; refine (hTL _).mono ?_; rintro e w2 ⟨rfl, rfl⟩)
  all_goals (go_ret2; exact ⟨rfl, (Keep.refl w).alloc _⟩)
end Go.Proofs.YtgjhbolnnnibkaaGreatDoor
