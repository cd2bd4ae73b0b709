import Derived.Test.YtpogipmamciciaaDoorProg
import Derived.Test.YtpogipmamciciaaDoorF0
import Derived.WalkKit
import Derived.WalkSpells
import Derived.WalkLawsBesides
import Derived.Deep.Draws
import Derived.Deep.QuietTactic
import Derived.BigQuiet
import Derived.Laws.Externs
import Derived.Laws.CopyOwn
import Derived.Shelf.Abstract
import Derived.Deep.RegionLaw
import Derived.BigRegion
import Derived.Deep.RegionHeld3
set_option linter.unusedVariables false
set_option linter.unusedSimpArgs false
namespace Go.Proofs.YtpogipmamciciaaDoor
open Go.RowKit Go.Shelf
attribute [local go_sem] run_store_func
set_option maxRecDepth 100000 in
set_option maxHeartbeats 1000000 in
theorem first_any (a : Option Addr) (c : Nat) (R : List Rl) (bs : Nat → Bool) (t n : Int) (w : World) (hR : RdR w a R) (hl : R.length ≤ 54)
    (hC : ∀ j, j < R.length → Ans w (R.getD j rl0) (bs j)) :
    Calls Tryd.prog 15 #[.slice a R.length c, .int .i64 t, .int .i64 n] w fun e w' => e = .returned (bkV (fsB R bs t n)) ∧ Keep w w' := by
  have HF : Hid (fsB R bs t n = fsF R bs t n R.length 0) := rfl
  generalize hB : fsB R bs t n = B at *
  clear hB
  obtain ⟨w1, hw1, k1, t1, s1⟩ := boxed w #[.int .i64 0, .int .i64 0, .int .i64 0] 44
  go_enter Tryd.func15, Tryd.ntmps15
  go_wp2_with (rw [hw1])
  go_loopw [11] (fun i wr => ∃ k : Nat, i = .int .i64 (k : Int) ∧ k ≤ R.length ∧ Hid (B = fsF R bs t n (R.length - k) k) ∧ Keep w1 wr) (fun i wr => R.length - (intOf i).toNat)
  case atStart => exact ⟨0, rfl, by omega, HF, Keep.refl _⟩
  case round =>
    obtain ⟨k, rfl, hk, H, kr⟩ := hrel
    by_cases hlt : k < R.length
    · have hltc : (k : Int) < (R.length : Int) := by omega
      obtain ⟨b, o, rfl, x0, x1⟩ := (hR.keep (k1.trans kr)) k hlt
      have hCk := hC k hlt
      have H1 : Hid (fsF R bs t n (R.length - k) k = if bs k = true then fsF R bs t n (R.length - (k + 1)) (k + 1) else ((R.getD k rl0).1, t, n)) := by
        rw [show R.length - k = (R.length - (k + 1)) + 1 by omega, fsF]; rfl
      have HK : Hid (k < R.length) := hlt
      clear hlt
      generalize R.getD k rl0 = rk at x0 x1 hCk H1
      obtain ⟨nm, fn, cp⟩ := rk
      simp only at x0 x1 H1
      obtain ⟨w4, hw4, k4, t4, s4⟩ := boxed wr #[.int .i64 nm, .func (.func fn) #[] cp] 51
      obtain ⟨d0, d1, g0, g1⟩ := cells2 t4
      have hCx := hCk.2 w4 ((k1.trans kr).trans k4)
      have hE := hCk.1 w4
      simp only at hE hCx
      clear hCk
      replace hE : Hid _ := hE
      cases hb : bs k with
      | true =>
        rw [hb] at hCx H1
        go_wp2_with fail
        rw [hE.out, Oper.upon_enter]
        refine hCx.mono ?_
        rintro e w5 ⟨rfl, k5⟩
        go_wp2_with fail
        go_roundw
        case rel => exact ⟨k + 1, by go_num, by have := HK.out; omega, by unfold Hid; rw [H.out, H1.out, if_pos trivial], (kr.trans k4).trans k5⟩
        case measure => have := HK.out; simp [intOf]; omega
      | false =>
        rw [hb] at hCx H1
        go_wp2_with fail
        rw [hE.out, Oper.upon_enter]
        refine hCx.mono ?_
        rintro e w5 ⟨rfl, k5⟩
        have k15 := (kr.trans k4).trans k5
        have t5 := k15.at t1
        obtain ⟨c0, c1, c2, f0, f1, f2⟩ := cells3 t5
        have t6 := k5.at t4
        obtain ⟨y0, y1, -, -⟩ := cells2 t6
        go_wp2_with fail
        have h := heap3 w5 w.heap.size (.int .i64 nm) (.int .i64 t) (.int .i64 n) t5
        have kk := keep3 (k1.trans k15) w.heap.size (Nat.le_refl _) (.int .i64 nm) (.int .i64 t) (.int .i64 n)
        refine bodyPost_ret (ret_bk rfl _ _ w.heap.size _ _ _ rfl h) rfl ⟨?_, kk⟩
        rw [H.out, H1.out, if_neg (by simp)]
    · have hltc : ¬ (k : Int) < (R.length : Int) := by omega
      have t5 := kr.at t1
      obtain ⟨c0, c1, c2, f0, f1, f2⟩ := cells3 t5
      have H1 : Hid (fsF R bs t n (R.length - k) k = (0, 0, 0)) := by rw [show R.length - k = 0 by omega]; rfl
      clear hlt
      go_wp2_with fail
      have h := heap3 wr w.heap.size (.int .i64 0) (.int .i64 0) (.int .i64 0) t5
      have kk := keep3 (k1.trans kr) w.heap.size (Nat.le_refl _) (.int .i64 0) (.int .i64 0) (.int .i64 0)
      refine bodyPost_ret (ret_bk rfl _ _ w.heap.size _ _ _ rfl h) rfl ⟨?_, kk⟩
      rw [H.out, H1.out]
end Go.Proofs.YtpogipmamciciaaDoor
