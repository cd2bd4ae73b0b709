import Derived.Test.YtgjhbolnnnibkaaGreatDoorProg
import Derived.Test.YtgjhbolnnnibkaaGreatDoorFT9
import Derived.WalkKit
import Derived.WalkSpells
import Derived.WalkLawsBesides
import Derived.Deep.Draws
import Derived.Deep.QuietTactic
import Derived.Laws.Externs
import Derived.Shelf.Abstract
import Derived.Below
import Derived.Deep.RegionLaw
import Derived.Laws.CopyOwn
import Derived.BigRegion
import Derived.BigQuiet
import Derived.Deep.RegionHeld3
import Derived.Lib.Bytealg
import Derived.Laws.RangeString
import Derived.Laws.RangeAny
import Derived.Lib.OthersKept
import Derived.Deep.LoopGhost
import Derived.Shelf.Strings.Trim
import Derived.Shelf.Small.Strs
import Derived.Shelf.Strings.Search1
import Derived.Shelf.Strings.Repeat
set_option linter.unusedVariables false
set_option linter.unusedSimpArgs false
namespace Go.Proofs.YtgjhbolnnnibkaaGreatDoor
open Go.RowKit Go.Shelf
theorem gt5_eq (R : List UInt8) : gt5 R = !(Op.bytesLess R [53] || R == [53]) := by
  match R with
  | [] => rfl
  | b :: t =>
    simp only [gt5, Op.bytesLess]
    by_cases h1 : 53 < b.toNat
    · have h2 : ¬ b < 53 := by rw [UInt8.lt_iff_toNat_lt]; show ¬ b.toNat < 53; omega
      have h3 : b ≠ 53 := by intro e; rw [e] at h1; exact absurd h1 (by decide)
      simp [h1, h2, h3]
    · by_cases h4 : b = 53
      · subst h4
        cases t <;> simp [Op.bytesLess]
      · have h5 : b.toNat ≠ 53 := fun e => h4 (UInt8.toNat_inj.1 e)
        have h6 : b < 53 := by rw [UInt8.lt_iff_toNat_lt]; show b.toNat < 53; omega
        simp [h1, h5, h6]
theorem nat_step (A : List UInt8) (i : Nat) (h : i < A.length) : nat (A.take (i + 1)) = nat (A.take i) * 10 + dv (A.getD i 0) := by
  have e : A.take (i + 1) = A.take i ++ [A.getD i 0] := by
    rw [List.take_add_one]; simp [List.getD, List.getElem?_eq_getElem h]
  rw [e, nat_append, nat_cons]
  simp [nat]
theorem Keep.iter {a b : World} (h : Keep a b) (t : ByteArray) (i : Nat) : Keep a (b.iter t i) := h.alloc _
set_option maxRecDepth 100000 in
set_option maxHeartbeats 4000000 in
theorem millionths_main (ng : Bool) (wh pt : List UInt8) (P : Int) (w : World) (hl : wh.length + pt.length ≤ 4096) (hP : -1048576 ≤ P ∧ P ≤ 1048576) (ds : List UInt8) (hds : tl0 (wh ++ pt) = ds) (hdd : allD ds) (T : Nat) (hS : (ds.length : Int) - pt.length + P + 6 = (T : Int)) (h0 : ds ≠ []) (hT : T ≤ 19)  (N : Nat) (hN : rq (nat ((ds ++ List.replicate (T - ds.length) 48).take T)) (tr0 ((ds ++ List.replicate (T - ds.length) 48).drop T)) = N) :
    Calls Tryz.prog 66 #[.agg (dcl ng wh pt P)] w fun e w' => e = .returned (.tuple #[.int .i64 (sgV ng N), .int .i64 (sgE ng N)]) ∧ Keep w w' := by
  have hTL := fun wx => tl_of wh pt wx
  rw [hds] at hTL
  have hdl : ds.length ≤ 4096 := by have := tl0_len (wh ++ pt); rw [hds, List.length_append] at this; omega
  have s1 : (ByteArray.mk ds.toArray).size = ds.length := sz_mk ds
  have s2 : (ByteArray.mk pt.toArray).size = pt.length := sz_mk pt
  obtain ⟨Z, hZ⟩ : ∃ Z, List.replicate (T - ds.length) (48 : UInt8) = Z := ⟨_, rfl⟩
  have hZl : Z.length = T - ds.length := by rw [← hZ, List.length_replicate]
  have hZd : allD Z := by rw [← hZ]; exact allD.zeros _
  have hRp := fun wx => rp_of (T - ds.length) (by omega) wx
  rw [hZ] at hRp hN
  obtain ⟨F, hF⟩ : ∃ F, ds ++ Z = F := ⟨_, rfl⟩
  have hFd : allD F := by rw [← hF]; exact hdd.app hZd
  have hFl : T ≤ F.length ∧ F.length ≤ 8192 := by rw [← hF, List.length_append, hZl]; omega
  have hcat : (ByteArray.mk ds.toArray) ++ (ByteArray.mk Z.toArray) = ByteArray.mk F.toArray := by rw [catB, hF]
  have s3 : (ByteArray.mk Z.toArray).size = Z.length := sz_mk Z
  rw [hF] at hN
  have hup := fun wx => run_upto F T hFl.1 wx
  have hfr := fun wx => run_from F T hFl.1 wx
  obtain ⟨A, hA⟩ : ∃ A, F.take T = A := ⟨_, rfl⟩
  obtain ⟨B, hB⟩ : ∃ B, F.drop T = B := ⟨_, rfl⟩
  have hAD : Hid (allD A) := by rw [← hA]; exact hFd.take T
  have hAl : A.length = T := by rw [← hA, List.length_take]; omega
  have hTR := fun wx => tr_of B (by rw [← hB, List.length_drop]; omega) wx
  rw [hA] at hup hN
  rw [hB] at hfr hN
  obtain ⟨R, hR⟩ : ∃ R, tr0 B = R := ⟨_, rfl⟩
  rw [hR] at hTR hN
  obtain ⟨b1, g1⟩ : ∃ b, Op.bytesLess R [53] = b := ⟨_, rfl⟩
  obtain ⟨b2, g2⟩ : ∃ b, (R == [53]) = b := ⟨_, rfl⟩
  have g3 := gt5_eq R
  rw [g1, g2] at g3
  have g4 : eq5 R = b2 := by rw [← g2]; unfold eq5; by_cases e : R = [53] <;> simp [e]
  obtain ⟨M, hM⟩ : ∃ M, nat A = M := ⟨_, rfl⟩
  have hMl : M < 10000000000000000000 := by
    have h1 := nat_lt hAD.out
    have h2 : (10 : Nat) ^ A.length ≤ 10 ^ 19 := Nat.pow_le_pow_right (by omega) (by omega)
    have e19 : (10 : Nat) ^ 19 = 10000000000000000000 := by decide
    omega
  rw [hM] at hN
  have hNq : Hid (N = if (!(b1 || b2)) = true ∨ b2 = true ∧ M % 2 = 1 then M + 1 else M) := by
    rw [← hN]; unfold rq; rw [g3, g4]; rfl
  have hSg := fun (u : Nat) (hu : u < 18446744073709551616) wx => signed_any ng u hu wx
  obtain ⟨D, hD⟩ : ∃ D, ds.length = D := ⟨_, rfl⟩
  obtain ⟨Q, hQ⟩ : ∃ Q, pt.length = Q := ⟨_, rfl⟩
  obtain ⟨V, hV⟩ : ∃ V, Z.length = V := ⟨_, rfl⟩
  rw [hD] at s1 hdl hS hRp hZl 
  rw [hQ] at s2 hS hl
  rw [hV] at s3 hZl
  obtain ⟨hP1, hP2⟩ := hP
  have hQ4 : Q ≤ 4096 := by omega
  have hV4 : V ≤ 4096 := by omega
  have x1 : IntKind.i64.wrap ((D : Int) - (Q : Int)) = (D : Int) - (Q : Int) := by rw [IntWalk.i64_left]; exact IntWalk.wrap64_in _ (by omega)
  have x2 : IntKind.i64.wrap ((D : Int) - (Q : Int) + P) = (D : Int) - (Q : Int) + P := by rw [IntWalk.i64_left]; exact IntWalk.wrap64_in _ (by omega)
  have x3 : IntKind.i64.wrap ((D : Int) - (Q : Int) + P + 6) = (T : Int) := by rw [IntWalk.i64_left, hS]; exact IntWalk.wrap64_in _ (by omega)
  have x4 : IntKind.i64.wrap ((T : Int) - (D : Int)) = (T : Int) - (D : Int) := by rw [IntWalk.i64_left]; exact IntWalk.wrap64_in _ (by omega)
  have hde : (ds == []) = false := by simpa using h0
  have hT0 : ¬ ((T : Int) < 0) := by omega
  have hT19 : ¬ ((19 : Int) < (T : Int)) := by omega
  have hRk : ((T - D : Nat) : Int) = max 0 ((T : Int) - (D : Int)) := by omega
  have hd1 : decide ((T : Int) < 0) = false := by simp
  have hd2 : decide ((19 : Int) < (T : Int)) = false := decide_eq_false hT19
  rw [hRk] at hRp
  replace hS : Hid _ := hS
  replace hAl : Hid _ := hAl
  replace hRk : Hid _ := hRk
  replace hMl : Hid _ := hMl
  replace hM : Hid _ := hM
  unfold dcl
  clear hds h0 hdd hZ hF hFd hA hB hR hN g3 g4 hZd
  go_enter Tryz.func66, Tryz.ntmps66
  go_wp2_with (first
    | (go_at_call 102; refine (hTL _).mono ?_; rintro e w2 ⟨rfl, rfl⟩)
    | (go_at_call 72; refine (hRp _).mono ?_; rintro e w3 ⟨rfl, k3⟩; have K3 : Hid (Keep w w3) := ((Keep.refl w).alloc _).trans k3; have X3 : Hid (Bx w3 w.heap.size #[.bool ng, .string ⟨wh.toArray⟩, .string ⟨pt.toArray⟩, .int .i64 P]) := k3.at (Bx.new w _); clear k3))
  go_loopg [6] (A.length) (fun g v6 wx => ∃ i : Nat, i + g = A.length ∧ v6 = .int .u64 ((nat (A.take i) : Nat) : Int) ∧ wx = w3.iter ⟨A.toArray⟩ i)
  case atStart => exact ⟨0, by omega, by simp [nat], rfl⟩
  case round =>
    obtain ⟨i, hig, rfl, rfl⟩ := hrel
    obtain ⟨n, hn⟩ : ∃ n, nat (A.take i) = n := ⟨_, rfl⟩
    rw [hn]
    by_cases hil : i < A.length
    · have hnx := fun ty => next_at hAD.out hil w3 ty
      have hst := nat_step A i hil
      have hb := gd_bounds hAD.out hil
      rw [hn] at hst
      unfold dv at hst
      obtain ⟨x, hx⟩ : ∃ x, (A.getD i 0).toNat = x := ⟨_, rfl⟩
      rw [hx] at hnx hst hb
      obtain ⟨hb1, hb2⟩ := hb
      have w1 : IntKind.i32.wrap ((x : Int) - 48) = ((x - 48 : Nat) : Int) := by
        rw [show (x : Int) - 48 = ((x - 48 : Nat) : Int) by omega]
        obtain ⟨z, hz⟩ : ∃ z, x - 48 = z := ⟨_, rfl⟩
        have : z ≤ 9 := by omega
        rw [hz]
        exact w32 this
      obtain ⟨y, hy⟩ : ∃ y, x - 48 = y := ⟨_, rfl⟩
      rw [hy] at w1 hst
      have hy9 : y ≤ 9 := by omega
      have hbnd : n * 10 + y < 10000000000000000000 := by
        rw [← hst]
        have h1 := nat_lt (hAD.out.take (i + 1))
        have h2 : (10 : Nat) ^ (A.take (i + 1)).length ≤ 10 ^ 19 := Nat.pow_le_pow_right (by omega) (by rw [List.length_take]; have := hAl.out; omega)
        have e19 : (10 : Nat) ^ 19 = 10000000000000000000 := by decide
        omega
      replace hst : Hid _ := hst
      replace hn : Hid _ := hn
      clear hx hy
      go_wp2_with fail
      all_goals
        go_roundg (gk - 1)
        case measure => omega
        case rel =>
          refine ⟨i + 1, by omega, ?_, rfl⟩
          rw [hst.out]
          congr 1
    · obtain rfl : i = A.length := by omega
      have hnx := fun ty => next_end (l := A) w3 ty
      rw [List.take_length] at hn
      obtain rfl : M = n := by rw [← hM.out, hn]
      have hMl := hMl.out
      have cx : (w3.iter ⟨A.toArray⟩ A.length).cell? ⟨w.heap.size, 0, none⟩ = some (.bool ng) := (X3.out.alloc (.stringIter ⟨A.toArray⟩ A.length)).cell 0
      have hm2 : M % 2 = 0 ∨ M % 2 = 1 := by omega
      clear hn
      cases b1 <;> cases b2 <;> rcases hm2 with hm | hm <;> simp [hm] at hNq
      all_goals
        first
          | (have hX : Hid (N = M + 1) := hNq
             have hSN := fun wx => signed_any ng (M + 1) (by omega) wx
             have ec : ((M + 1 : Nat) : Int) = (M : Int) + 1 := by omega
             rw [ec] at hSN
             clear ec hNq)
          | (have hX : Hid (N = M) := hNq
             have hSN := fun wx => signed_any ng M (by omega) wx
             clear hNq)
        clear hSg
        go_wp2_with (first
          | (go_at_call 63; refine (hTR _).mono ?_; rintro e w4 ⟨rfl, rfl⟩)
          | (go_at_call 61; refine (hSN _).mono ?_; rintro e w5 ⟨rfl, rfl⟩))
      all_goals (go_ret2; exact ⟨by rw [hX.out]; rfl, K3.out.iter _ _⟩)
theorem mv_zero (p : Int) : mv 0 p = 0 := by
  unfold mv rup
  simp
  try omega
theorem sg_zero (ng : Bool) : sgV ng 0 = 0 ∧ sgE ng 0 = 0 := by cases ng <;> decide
theorem sg_big (ng : Bool) (N : Nat) (h : 10000000000000000000 ≤ N) : sgV ng N = 0 ∧ sgE ng N = 41 := by
  have h1 : ¬ N ≤ 9223372036854775808 := by omega
  have h2 : ¬ N < 9223372036854775808 := by omega
  unfold sgV sgE
  simp [h1, h2]
theorem millionths_any (ng : Bool) (wh pt : List UInt8) (P : Int) (w : World) (hl : wh.length + pt.length ≤ 4096) (hP : -1048576 ≤ P ∧ P ≤ 1048576) (hwd : allD wh) (hpd : allD pt) (N : Nat) (hN : mv (nat (wh ++ pt)) (P - pt.length + 6) = N) :
    Calls Tryz.prog 66 #[.agg (dcl ng wh pt P)] w fun e w' => e = .returned (.tuple #[.int .i64 (sgV ng N), .int .i64 (sgE ng N)]) ∧ Keep w w' := by
  have hd : allD (wh ++ pt) := hwd.app hpd
  by_cases h0 : tl0 (wh ++ pt) = []
  · have e0 := (tl0_nil hd).1 h0
    rw [e0, mv_zero] at hN
    subst hN
    rw [(sg_zero ng).1, (sg_zero ng).2]
    exact millionths_zero ng wh pt P w hl hP _ rfl _ rfl h0
  · rcases Int.lt_or_le ((tl0 (wh ++ pt)).length - (pt.length : Int) + P + 6) 0 with hS | hS
    · have h1 := mv_far (p := P - pt.length + 6) (tl0_allD hd) (by omega)
      rw [tl0_nat, hN] at h1
      subst h1
      rw [(sg_zero ng).1, (sg_zero ng).2]
      exact millionths_far ng wh pt P w hl hP _ rfl _ rfl h0 hS
    · by_cases hB : 19 < ((tl0 (wh ++ pt)).length : Int) - (pt.length : Int) + P + 6
      · have h1 := mv_great (p := P - pt.length + 6) hd h0 (by omega)
        rw [hN] at h1
        rw [(sg_big ng N h1).1, (sg_big ng N h1).2]
        exact millionths_big ng wh pt P w hl hP _ rfl _ rfl h0 hB
      · obtain ⟨T, hT⟩ : ∃ T : Nat, ((tl0 (wh ++ pt)).length : Int) - (pt.length : Int) + P + 6 = (T : Int) := ⟨Int.toNat _, (Int.toNat_of_nonneg hS).symm⟩
        have h1 := mv_in (p := P - pt.length + 6) (T := T) (tl0_allD hd) (by omega)
        rw [tl0_nat, hN] at h1
        exact millionths_main ng wh pt P w hl hP _ rfl (tl0_allD hd) T hT h0 (by omega) N h1
end Go.Proofs.YtgjhbolnnnibkaaGreatDoor
