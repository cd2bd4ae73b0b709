import Derived.Test.YtbchinfmdioijaaT8
import Derived.Deep.RegionWith
import Derived.Deep.RegionHeld3
set_option linter.unusedVariables false
set_option linter.unusedSimpArgs false
namespace Go.Proofs.Ytbchinfmdioijaa
open Go.RowKit Go.Shelf
/-- The first node that is not right. -/
def badF (L : List Nd) : Nat → Nat → Option Nat
  | 0, _ => none
  | f + 1, k => if rightB (L.getD k nd0) L.length then badF L f (k + 1) else some k
/-- What Shape answers. -/
def shE (L : List Nd) : Int := if L.length = 0 then 70 else match badF L L.length 0 with
  | some _ => 71
  | none => if misF L (L.length - 1) 1 = 0 then 0 else 70
def shI (L : List Nd) : Nat := if L.length = 0 then 0 else match badF L L.length 0 with
  | some i => i
  | none => misF L (L.length - 1) 1
theorem badF_none {L : List Nd} : ∀ (f k : Nat), badF L f k = none → ∀ i, k ≤ i → i < k + f → rightB (L.getD i nd0) L.length = true
  | 0, k, _, i, h1, h2 => by omega
  | f + 1, k, h, i, h1, h2 => by
    rw [badF] at h
    split at h
    · rename_i hr
      by_cases e : i = k
      · subst e; exact hr
      · exact badF_none f (k + 1) h i (by omega) (by omega)
    · cases h
set_option maxRecDepth 100000 in
set_option maxHeartbeats 1000000 in
theorem Shape_any (w : World) (a : Option Addr) (cap : Nat) (out : Int) (L : List Nd) (hLn : L.length ≤ 2199023255552) (hrd : RdN w a L) :
    Calls Try.prog 12 #[.agg #[.int .i64 out, .slice a L.length cap]] w fun e w' => e = .returned (.tuple #[.int .i64 (shE L), .int .i64 (shI L : Nat)]) ∧ Keep w w' := by
  by_cases hL0 : L.length = 0
  · have HE : Hid (shE L = 70 ∧ shI L = 0) := by unfold shE shI; exact ⟨if_pos hL0, if_pos hL0⟩
    rw [hL0]
    go_enter Try.func12, Try.ntmps12
    go_wp2_with fail
    go_ret2
    rw [HE.out.1, HE.out.2]
    exact ⟨rfl, (Keep.refl _).alloc _⟩
  · have hg0 : ((L.length : Int) == 0) = false := by rw [beq_eq_false_iff_ne]; omega
    have hg1 : ¬ L = [] := fun h => hL0 (by rw [h]; rfl)
    have HE : Hid (shE L = (match badF L L.length 0 with
      | some _ => 71
      | none => if misF L (L.length - 1) 1 = 0 then 0 else 70) ∧ shI L = (match badF L L.length 0 with
      | some i => i
      | none => misF L (L.length - 1) 1)) := by unfold shE shI; exact ⟨if_neg hL0, if_neg hL0⟩
    have k0 : Keep w (w.alloc (Obj.cells #[Value.int IntKind.i64 out, Value.slice a L.length cap] 24)) := (Keep.refl w).alloc _
    have c0 : (w.alloc (Obj.cells #[Value.int IntKind.i64 out, Value.slice a L.length cap] 24)).cell? ⟨w.heap.size, 1, none⟩ = some (.slice a L.length cap) := by
      rw [cell_of_row _ _ 1 _ 24 (0, 0) (heap_alloc_new w _)]; rfl
    go_enter Try.func12, Try.ntmps12
    go_wp2_with fail
    generalize w.alloc _ = w1 at k0 c0 ⊢
    generalize w.heap.size = s at c0 ⊢
    go_loopw [13] (fun iv wr => ∃ k : Nat, k ≤ L.length ∧ iv = .int .i64 k ∧ Keep w wr ∧ wr.cell? ⟨s, 1, none⟩ = some (.slice a L.length cap) ∧ Hid (badF L L.length 0 = badF L (L.length - k) k)) (fun iv _ => L.length - (intOf iv).toNat)
    case atStart => exact ⟨0, by omega, rfl, k0, c0, rfl⟩
    case round =>
      obtain ⟨k, hk, rfl, kw, cw, hbad⟩ := hrel
      clear k0 c0
      by_cases hkl : k < L.length
      · have hkc : (k : Int) < (L.length : Int) := by omega
        obtain ⟨b, o, ca, cp, rfl, hnd⟩ := (hrd.keep kw) k hkl
        have hr := fun (wx : World) (e : Keep wr wx) => isRight_any wx (L.getD k nd0) b (o + k * 8) L.length ca cp (hnd.keep e)
        have hstep : badF L (L.length - k) k = if rightB (L.getD k nd0) L.length then badF L (L.length - (k + 1)) (k + 1) else some k := by
          rw [show L.length - k = (L.length - (k + 1)) + 1 by omega, badF]
        have kd : Keep wr wr.drew := (Keep.refl wr).drew
        by_cases hrt : rightB (L.getD k nd0) L.length = true
        · have HB : Hid (badF L L.length 0 = badF L (L.length - (k + 1)) (k + 1)) := by show _ = _; rw [hbad.out, hstep, if_pos hrt]
          rw [hrt] at hr
          clear hstep hbad hnd
          go_wp2_with fail
          go_region_with (go_at_call 43; refine (hr _ kd).mono ?_; rintro e w' ⟨rfl, rfl⟩)
          all_goals
            go_simp
            go_wp2_with fail
            go_roundw
            case rel => exact ⟨k + 1, by omega, by go_num, kw.drew, cw, HB⟩
            case measure => simp [intOf]; omega
        · have hrf : rightB (L.getD k nd0) L.length = false := by simpa using hrt
          have HB : Hid (badF L L.length 0 = some k) := by show _ = _; rw [hbad.out, hstep, hrf]; rfl
          rw [hrf] at hr
          clear hstep hbad hnd hrt hrf
          go_wp2_with fail
          go_region_with (go_at_call 43; refine (hr _ kd).mono ?_; rintro e w' ⟨rfl, rfl⟩)
          all_goals
            go_simp
            go_wp2_with fail
            go_ret2
            have H := HE.out
            rw [HB.out] at H
            rw [H.1, H.2]
            exact ⟨rfl, kw.drew⟩
      · have hkc : ¬ (k : Int) < (L.length : Int) := by omega
        have HB : Hid (badF L L.length 0 = none) := by show _ = _; rw [hbad.out, show L.length - k = 0 by omega]; rfl
        have hR : Rgt L := ⟨by omega, fun i hi => badF_none _ _ HB.out i (by omega) (by omega)⟩
        have hM := (callsIn_wide (n := 3)).1 (misplaced_in 3 (by omega) a cap L hLn hR wr (hrd.keep kw))
        clear hbad
        obtain ⟨m, hm⟩ : ∃ m, misF L (L.length - 1) 1 = m := ⟨_, rfl⟩
        rw [hm] at hM
        have HM : Hid (misF L (L.length - 1) 1 = m) := hm
        clear hm
        by_cases hm0 : m = 0
        · subst hm0
          go_wp2_with (go_at_call 44; refine hM.mono ?_; rintro e w2 ⟨rfl, k2⟩)
          go_ret2
          have H := HE.out
          rw [HB.out] at H
          simp only [HM.out, if_true] at H
          rw [H.1, H.2]
          exact ⟨rfl, kw.trans k2⟩
        · have hmi : ((m : Int) == 0) = false := by rw [beq_eq_false_iff_ne]; omega
          go_wp2_with (go_at_call 44; refine hM.mono ?_; rintro e w2 ⟨rfl, k2⟩)
          go_ret2
          have H := HE.out
          rw [HB.out] at H
          simp only [HM.out, if_neg hm0] at H
          rw [H.1, H.2]
          exact ⟨rfl, kw.trans k2⟩
end Go.Proofs.Ytbchinfmdioijaa
