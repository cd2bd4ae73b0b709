import Derived.Test.YtagfkmbljkglpaaProg
import Derived.Test.YtagfkmbljkglpaaLC1
import Derived.WalkKit
import Derived.WalkSpells
import Derived.WalkLawsBesides
import Derived.Laws.CopyOwn
import Derived.Deep.Draws
import Derived.Deep.QuietTactic
import Derived.BigQuiet
set_option linter.unusedVariables false
set_option linter.unusedSimpArgs false
namespace Go.Proofs.Ytagfkmbljkglpaa
open Go.RowKit Lb
/-- Only the count of draws has moved on. -/
def Dr (w w' : World) : Prop := ∃ q, w' = w.drewN q
theorem Dr.refl (w : World) : Dr w w := ⟨0, rfl⟩
theorem Dr.drewN {w w' : World} (h : Dr w w') (q : Nat) : Dr w (w'.drewN q) := by obtain ⟨n, rfl⟩ := h; exact ⟨n + q, World.drewN_drewN _ _ _⟩
theorem Dr.cell {w w' : World} (h : Dr w w') (a : Addr) : w'.cell? a = w.cell? a := by obtain ⟨n, rfl⟩ := h; rfl
theorem Dr.keep {w w' : World} (h : Dr w w') : Keep w w' := by obtain ⟨n, rfl⟩ := h; exact (Keep.refl w).drewN n
theorem Dr.trans {a b c : World} (h : Dr a b) (k : Dr b c) : Dr a c := by obtain ⟨n, rfl⟩ := k; exact h.drewN n
def cmpTop (a b : List Nat) : Nat → Int
  | 0 => 0
  | k + 1 => if a.getD k 0 < b.getD k 0 then -1 else if b.getD k 0 < a.getD k 0 then 1 else cmpTop a b k
def cmpL (a b : List Nat) : Int := if a.length < b.length then -1 else if b.length < a.length then 1 else cmpTop a b a.length
def sgn (t : Bool) : Int := if t then -1 else 1
theorem sign_any (t : Bool) (w : World) : Calls Try.prog 41 #[.bool t] w fun e w' => e = .returned (.int .i64 (sgn t)) ∧ w' = w := by
  cases t
  all_goals
    go_enter Try.func41, Try.ntmps41
    go_wp2
    go_ret
    exact ⟨rfl, rfl⟩
set_option maxHeartbeats 400000 in
set_option maxRecDepth 100000 in
theorem compare_any (a b : Option Addr) (ca cb : Nat) (la lb : List Nat) (w : World) (hla : la.length ≤ 9223372036854775807) (_hlb : lb.length ≤ 9223372036854775807) (hra : Rd w a la) (hrb : Rd w b lb) :
    Calls Try.prog 35 #[.slice a la.length ca, .slice b lb.length cb] w fun e w' => e = .returned (.int .i64 (cmpL la lb)) ∧ Dr w w' := by
  by_cases hlt : la.length < lb.length
  · go_enter Try.func35, Try.ntmps35
    go_wp2
    go_ret
    exact ⟨ret_int (by unfold cmpL; rw [if_pos hlt]), Dr.refl _⟩
  by_cases hgt : lb.length < la.length
  · go_enter Try.func35, Try.ntmps35
    go_wp2
    go_ret
    exact ⟨ret_int (by unfold cmpL; rw [if_neg hlt, if_pos hgt]), Dr.refl _⟩
  have heq : ((la.length : Int) != (lb.length : Int)) = false := by simp; omega
  have hc : Hid (cmpL la lb = cmpTop la lb la.length) := by show _ = _; unfold cmpL; rw [if_neg hlt, if_neg hgt]
  go_enter Try.func35, Try.ntmps35
  go_wp2
  go_loopw [20] (fun i wr => ∃ k : Nat, k ≤ la.length ∧ i = .int .i64 k ∧ Hid (cmpTop la lb (la.length - k) = cmpTop la lb la.length) ∧ Dr w wr) (fun i _ => la.length - (intOf i).toNat)
  case atStart => exact ⟨0, Nat.zero_le _, rfl, rfl, Dr.refl _⟩
  case round =>
    obtain ⟨k, hk, rfl, hrest, hd⟩ := hrel
    by_cases hkl : k < la.length
    · obtain ⟨b1, o1, rfl, hc1⟩ := hra (la.length - 1 - k) (by omega)
      obtain ⟨b2, o2, rfl, hc2⟩ := hrb (la.length - 1 - k) (by omega)
      obtain ⟨x, hx⟩ : ∃ x, la.getD (la.length - 1 - k) 0 = x := ⟨_, rfl⟩
      obtain ⟨y, hy⟩ : ∃ y, lb.getD (la.length - 1 - k) 0 = y := ⟨_, rfl⟩
      rw [hx, ← hd.cell] at hc1
      rw [hy, ← hd.cell] at hc2
      have Hx : Hid (la.getD (la.length - 1 - k) 0 = x) := hx; clear hx
      have Hy : Hid (lb.getD (la.length - 1 - k) 0 = y) := hy; clear hy
      have hstep : Hid (cmpTop la lb (la.length - k) = if x < y then -1 else if y < x then 1 else cmpTop la lb (la.length - (k + 1))) := by
        show _ = _
        rw [show la.length - k = (la.length - 1 - k) + 1 from by omega, cmpTop, Hx.out, Hy.out, show la.length - (k + 1) = la.length - 1 - k from by omega]
      rcases Nat.lt_trichotomy x y with hxy | hxy | hxy
      · have hne : ((x : Int) != (y : Int)) = true := by simp; omega
        go_wp2
        go_quiet (fail)
        have hd1 : Dr w (wr.drewN nq) := hd.drewN nq
        have hc1' : (wr.drewN nq).cell? _ = _ := hc1
        have hc2' : (wr.drewN nq).cell? _ = _ := hc2
        clear hc1 hc2 hd
        generalize wr.drewN nq = w1 at hd1 hc1' hc2' ⊢
        go_wp2_with fail
        go_quiet ((go_at_call 41; exact Calls.quiet_of_same (sign_any _ _)))
        go_wp2
        go_ret
        exact ⟨ret_int (by rw [hc.out, ← hrest.out, hstep.out, if_pos hxy]; rfl), hd1.drewN _⟩
      · subst hxy
        go_wp2
        go_quiet (fail)
        go_wp2
        go_roundw
        case rel => exact ⟨k + 1, by omega, by go_num, by rw [← hrest.out, hstep.out, if_neg (by omega), if_neg (by omega)]; rfl, hd.drewN _⟩
        case measure => simp [intOf]; omega
      · have hne : ((x : Int) != (y : Int)) = true := by simp; omega
        have hd' : decide ((x : Int) < y) = false := by simp; omega
        go_wp2
        go_quiet (fail)
        have hd1 : Dr w (wr.drewN nq) := hd.drewN nq
        have hc1' : (wr.drewN nq).cell? _ = _ := hc1
        have hc2' : (wr.drewN nq).cell? _ = _ := hc2
        clear hc1 hc2 hd
        generalize wr.drewN nq = w1 at hd1 hc1' hc2' ⊢
        go_wp2_with fail
        go_quiet ((go_at_call 41; exact Calls.quiet_of_same (sign_any _ _)))
        go_wp2
        go_ret
        exact ⟨ret_int (by rw [hc.out, ← hrest.out, hstep.out, if_neg (by omega), if_pos hxy]; simp [sgn]; omega), hd1.drewN _⟩
    · go_wp2
      go_ret
      have hkk : k = la.length := by omega
      exact ⟨ret_int (by rw [hc.out, ← hrest.out, hkk, Nat.sub_self]; rfl), hd⟩
end Go.Proofs.Ytagfkmbljkglpaa
