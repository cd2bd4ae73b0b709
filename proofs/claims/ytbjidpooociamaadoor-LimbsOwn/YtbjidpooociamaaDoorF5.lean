import Derived.Test.YtbjidpooociamaaDoorF4
set_option linter.unusedVariables false
set_option linter.unusedSimpArgs false
namespace Go.Proofs.YtbjidpooociamaaDoor
open Go.RowKit Lb
/-- DivMod, of any divisor that is not nought. -/
theorem DivMod_any (a b : Option Addr) (ca cb : Nat) (la lb : List Nat) (w : World) (hca : la.length ≤ ca) (hcb : lb.length ≤ cb) (hla : la.length ≤ 70368744177663) (hlb : lb.length ≤ 70368744177664) (hra : Rd w a la) (hrb : Rd w b lb) (hma : Lim la) (hmb : Lim lb) (hb0 : 0 < val lb) :
    Calls Tryd.prog 37 #[.slice a la.length ca, .slice b lb.length cb] w fun e w' => ∃ vq vr, e = .returned (.tuple #[vq, vr, .int .i64 0]) ∧ NatR w.heap.size w' vq (val la / val lb) ∧ NatR w.heap.size w' vr (val la % val lb) ∧ Keep w w' := by
  have h1 := nl_le la
  have h2 := nl_le lb
  have e1 : (la.take (nl la)).length = nl la := by simp; omega
  have e2 : (lb.take (nl lb)).length = nl lb := by simp; omega
  have hv := val_take_nl lb
  have hn0 : nl lb ≠ 0 := by
    intro h
    rw [h] at hv
    simp [val] at hv
    omega
  have hd := divide_any a b ca cb (la.take (nl la)) (lb.take (nl lb)) w (by omega) (by omega) (hra.take _) (hrb.take _) (Lim_take hma _) (Lim_take hmb _) (Nrm_take la) (Nrm_take lb) (by intro h; rw [h] at e2; simp at e2; omega)
  rw [e1, e2, val_take_nl, val_take_nl] at hd
  exact DivMod_of a b ca cb la lb w hca hcb (by omega) hlb hra hrb hn0 hd
set_option maxRecDepth 100000 in
set_option maxHeartbeats 400000 in
theorem DivMod_nought (a b : Option Addr) (ca cb : Nat) (la lb : List Nat) (w : World) (hca : la.length ≤ ca) (hcb : lb.length ≤ cb) (hla : la.length ≤ 70368744177664) (hlb : lb.length ≤ 70368744177664) (hra : Rd w a la) (hrb : Rd w b lb) (hb0 : nl lb = 0) :
    Calls Tryd.prog 37 #[.slice a la.length ca, .slice b lb.length cb] w fun e w' => e = .returned (.tuple #[.slice none 0 0, .slice none 0 0, .int .i64 11]) ∧ Keep w w' := by
  have t1 := trim_any a ca la w hca (by omega) hra
  have t2 := trim_any b cb lb w hcb (by omega) hrb
  rw [hb0] at t2
  go_enter Tryd.func37, Tryd.ntmps37
  go_wp2_with fail
  refine t1.mono ?_
  rintro e w' ⟨rfl, rfl⟩
  go_wp2_with fail
  refine t2.mono ?_
  rintro e w' ⟨rfl, rfl⟩
  go_wp2
  go_ret3
  exact ⟨rfl, Keep.refl _⟩
end Go.Proofs.YtbjidpooociamaaDoor
