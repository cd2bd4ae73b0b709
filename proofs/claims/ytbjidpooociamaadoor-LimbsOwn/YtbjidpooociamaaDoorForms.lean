import Derived.Test.YtbjidpooociamaaDoorC19
set_option linter.unusedVariables false
set_option linter.unusedSimpArgs false
namespace Go.Proofs.YtbjidpooociamaaDoor
open Go.RowKit Lb
set_option maxRecDepth 100000 in
set_option maxHeartbeats 1600000 in
theorem law_forms (a b : Option Addr) (ca cb : Nat) (la lb : List Nat) (n : Nat) (k : Int) (w : World) (hca : la.length ≤ ca) (hcb : lb.length ≤ cb) (hla : la.length ≤ 35184372088000) (hlb : lb.length ≤ 35184372088000) (hra : Rd w a la) (hrb : Rd w b lb) (hma : Lim la) (_hmb : Lim lb)
    (hn : n < 18446744073709551616) (hk1 : -9223372036854775808 ≤ k) (hk2 : k ≤ 9223372036854775807) :
    Calls Tryd.prog 3 #[.slice a la.length ca, .slice b lb.length cb, .int .u64 (n : Nat), .int .i64 k] w fun e w' => e = .returned (.bool true) ∧ Keep w w' := by
  have l1 := nl_le la
  have e1 : (la.take (nl la)).length = nl la := by simp; omega
  go_enter Tryd.func3, Tryd.ntmps3
  go_wp2_with fail
  refine (Small_any a ca la w hca (by omega) hra hma).mono ?_
  rintro e w1 ⟨rfl, rfl⟩
  go_wp2_with fail
  refine (rSmall_any a ca la w1 hca hla hra hma).mono ?_
  rintro e w2 ⟨rfl, h2⟩
  go_wp2_with fail
  refine (lives_any w2).mono ?_
  rintro e w3 ⟨rfl, h3⟩
  have k3 := h2.trans h3
  go_wp2_with fail
  refine (Norm_any a ca la w3 hca (by omega) (hra.keep k3)).mono ?_
  rintro e w4 ⟨v4, rfl, hv4, h4⟩
  obtain ⟨a4, c4, rfl, hc4, hr4⟩ := hv4.shape
  have k4 := k3.trans h4
  go_wp2_with fail
  refine (rNorm_any a ca la w4 hca hla (hra.keep k4)).mono ?_
  rintro e w5 ⟨v5, rfl, hv5, h5⟩
  obtain ⟨a5, c5, rfl, hc5, hr5⟩ := hv5.shape
  have k5 := k4.trans h5
  have s5 := Same_any a4 a5 c4 c5 (la.take (nl la)) w5 (by omega) (hr4.keep h5) hr5
  clear hv4 hv5
  rw [e1] at s5
  rw [e1]
  go_wp2_with fail
  refine s5.mono ?_
  rintro e w6 ⟨rfl, h6⟩
  clear s5
  have k6 := k5.trans h6.keep
  go_wp2_with fail
  refine (From_any n w6 hn).mono ?_
  rintro e w7 ⟨v7, l7, rfl, hv7, hm7, hn7, hl7, h7⟩
  obtain ⟨a7, c7, rfl, hc7, hr7⟩ := hv7.shape
  have k7 := k6.trans h7
  go_wp2_with fail
  refine (rFrom_any n w7 hn).mono ?_
  rintro e w8 ⟨v8, l8, rfl, hv8, hm8, hn8, hl8, h8⟩
  obtain ⟨a8, c8, rfl, hc8, hr8⟩ := hv8.shape
  have k8 := k7.trans h8
  have el : l8 = l7 := val_inj hm8 hm7 hn8 hn7 (by omega)
  subst el
  have hl8' := len_two hn8 (by omega)
  have s8 := Same_any a7 a8 c7 c8 l8 w8 (by omega) (hr7.keep h8) hr8
  clear hv7 hv8
  go_wp2_with fail
  refine s8.mono ?_
  rintro e w9 ⟨rfl, h9⟩
  clear s8
  have k9 := k8.trans h9.keep
  go_wp2_with fail
  refine (Cmp_any a b ca cb la lb w9 hca hcb (by omega) (by omega) (hra.keep k9) (hrb.keep k9)).mono ?_
  rintro e w10 ⟨rfl, h10⟩
  have k10 := k9.trans h10.keep
  go_wp2_with fail
  refine (rCmp_any a b ca cb la lb w10 hca hcb hla hlb (hra.keep k10) (hrb.keep k10)).mono ?_
  rintro e w11 ⟨rfl, h11⟩
  have k11 := k10.trans h11
  go_wp2_with fail
  refine (Len_any a ca la w11 hca (by omega) (hra.keep k11) hma).mono ?_
  rintro e w12 ⟨rfl, h12⟩
  have k12 := k11.trans h12.keep
  go_wp2_with fail
  refine (rLen_any a ca la w12 hca hla (hra.keep k12) hma).mono ?_
  rintro e w13 ⟨rfl, h13⟩
  have k13 := k12.trans h13
  go_wp2_with fail
  refine (Bit_any a ca la k w13 (by omega) (hra.keep k13) hma hk1 hk2).mono ?_
  rintro e w14 ⟨rfl, rfl⟩
  go_wp2_with fail
  refine (rBit_any a ca la k w14 (by omega) (hra.keep k13) hma hk1 hk2).mono ?_
  rintro e w15 ⟨rfl, rfl⟩
  go_wp2_with fail
  go_ret
  exact ⟨rfl, k13⟩
end Go.Proofs.YtbjidpooociamaaDoor
