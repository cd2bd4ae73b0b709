import Derived.Test.YtbjidpooociamaaDoorH6
import Derived.Test.YtbjidpooociamaaDoorC12
set_option linter.unusedVariables false
set_option linter.unusedSimpArgs false
namespace Go.Proofs.YtbjidpooociamaaDoor
open Go.RowKit Lb
theorem divisor_all (a b : Option Addr) (ca cb : Nat) (la lb : List Nat) (w : World) (hca : la.length ≤ ca) (hcb : lb.length ≤ cb) (hla : la.length ≤ 70368744177663) (hlb : lb.length ≤ 70368744177663) (hra : Rd w a la) (hrb : Rd w b lb) (hma : Lim la) (hmb : Lim lb) (na : Nrm la) (nb : Nrm lb) :
    Calls Tryd.prog 82 #[.slice a la.length ca, .slice b lb.length cb] w fun e w' => ∃ v, e = .returned v ∧ NatR w.heap.size w' v (Nat.gcd (val la) (val lb)) ∧ Keep w w' := by
  by_cases h : val la < val lb
  · have := divisor_lt b a cb ca lb la w hcb hca hlb hla hrb hra hmb hma nb na h
    rwa [Nat.gcd_comm] at this
  · exact divisor_ge a b ca cb la lb w hca hcb hla hlb hra hrb hma hmb na nb (by omega)
set_option maxRecDepth 100000 in
set_option maxHeartbeats 400000 in
theorem Gcd_any (a b : Option Addr) (ca cb : Nat) (la lb : List Nat) (w : World) (hca : la.length ≤ ca) (hcb : lb.length ≤ cb) (hla : la.length ≤ 70368744177663) (hlb : lb.length ≤ 70368744177663) (hra : Rd w a la) (hrb : Rd w b lb) (hma : Lim la) (hmb : Lim lb) :
    Calls Tryd.prog 39 #[.slice a la.length ca, .slice b lb.length cb] w fun e w' => ∃ v, e = .returned v ∧ NatR w.heap.size w' v (Nat.gcd (val la) (val lb)) ∧ Keep w w' := by
  have t1 := trim_any a ca la w hca (by omega) hra
  have t2 := trim_any b cb lb w hcb (by omega) hrb
  have l1 := nl_le la
  have l2 := nl_le lb
  have e1 : (la.take (nl la)).length = nl la := by simp; omega
  have e2 : (lb.take (nl lb)).length = nl lb := by simp; omega
  have hD := divisor_all a b ca cb (la.take (nl la)) (lb.take (nl lb)) w (by omega) (by omega) (by omega) (by omega) (hra.take _) (hrb.take _) (Lim_take hma _) (Lim_take hmb _) (Nrm_take la) (Nrm_take lb)
  rw [e1, e2, val_take_nl, val_take_nl] at hD
  go_enter Tryd.func39, Tryd.ntmps39
  go_wp2_with fail
  refine t1.mono ?_
  rintro e w1 ⟨rfl, rfl⟩
  go_wp2_with fail
  refine t2.mono ?_
  rintro e w2 ⟨rfl, rfl⟩
  go_wp2_with fail
  refine hD.mono ?_
  rintro e w3 ⟨v, rfl, hn, hk⟩
  have hn' := hn
  obtain ⟨a3, c3, l3, rfl, -⟩ := hn.shape
  go_wp2_with fail
  go_ret
  exact ⟨_, rfl, hn', hk⟩
end Go.Proofs.YtbjidpooociamaaDoor
