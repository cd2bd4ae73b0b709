import Derived.Test.YtgciimjcdhallaaDoorLA5
set_option linter.unusedVariables false
set_option linter.unusedSimpArgs false
namespace Go.Proofs.YtgciimjcdhallaaDoor.Li
open Go.RowKit Lb
theorem mulStep (q A P c x k d c' T : Nat) (B : Nat) (hv : q + c * P = k * A + B) (hT : T = c + x * k) (hd : T = d + 4294967296 * c') : (q + P * d) + c' * (P * 4294967296) = k * (A + x * P) + B := by
  have h1 : P * T = P * d + c' * (P * 4294967296) := by
    rw [hd, Nat.mul_add]
    congr 1
    rw [Nat.mul_comm c', Nat.mul_assoc]
  have h2 : P * T = c * P + k * (x * P) := by
    rw [hT, Nat.mul_add, Nat.mul_comm P c]
    congr 1
    rw [Nat.mul_comm x k, Nat.mul_left_comm, Nat.mul_comm P x]
  rw [Nat.mul_add]
  omega
set_option maxRecDepth 100000 in
set_option maxHeartbeats 800000 in
theorem times_any (a : Option Addr) (ca : Nat) (la : List Nat) (K P : Nat) (w : World) (hla : la.length ≤ 1000000) (hK : K ≤ 10) (hP : P ≤ 10) (hra : Rd w a la) (hma : Lim la) :
    Calls Tryd.prog 31 #[.slice a la.length ca, .int .u32 (K : Int), .int .u32 (P : Int)] w fun e w' => ∃ v, e = .returned v ∧ Nv w' v (K * val la + P) ∧ Keep w w' := by
  go_enter Tryd.func31, Tryd.ntmps31
  go_wp2_with fail
  go_loopw [7, 8, 9] (fun v c i wr => ∃ (j t : Nat) (q : List Nat), j ≤ la.length ∧ i = .int .i64 j ∧ c = .int .u64 t ∧ t ≤ 10 ∧ Own w.heap.size wr v q ∧ Hid (q.length = j) ∧ Lim q ∧ Hid (val q + t * 4294967296 ^ j = K * val (la.take j) + P) ∧ Keep w wr) (fun _ _ i _ => la.length - (intOf i).toNat)
  case atStart => exact ⟨0, P, [], by omega, rfl, rfl, hP, World.ownsRow_nil _ _ _ _, by show _ = _; simp, by intro x hx; simp at hx, by show _ = _; simp [val], Keep.refl _⟩
  case round =>
    obtain ⟨j, t, q, hkk, rfl, rfl, ht2, hown, hql, hmq, hv, hkp⟩ := hrel
    have hql' : q.length < 35184372088832 := by rw [hql.out]; omega
    obtain ⟨vs, cq, rfl, hcq, hrq⟩ := hown.shape
    clear hrq
    by_cases hkL : j < la.length
    · obtain ⟨b1, o1, rfl, hx1⟩ := (hra.keep hkp) j hkL
      obtain ⟨x, hx⟩ : ∃ x, la.getD j 0 = x := ⟨_, rfl⟩
      have hxl : x < 4294967296 := hx ▸ Lim_getD hma _
      rw [hx] at hx1
      have Hx : Hid (la.getD j 0 = x) := hx; clear hx
      obtain ⟨T, hT⟩ : ∃ T : Nat, t + x * K = T := ⟨_, rfl⟩
      have hxK : x * K ≤ 42949672950 := Nat.le_trans (Nat.mul_le_mul (show x ≤ 4294967295 by omega) hK) (by omega)
      obtain ⟨d, hd⟩ : ∃ d : Nat, T % 4294967296 = d := ⟨_, rfl⟩
      obtain ⟨u, hu⟩ : ∃ u : Nat, T / 4294967296 = u := ⟨_, rfl⟩
      have HV : Hid (val (q ++ [d]) + u * 4294967296 ^ (j + 1) = K * val (la.take (j + 1)) + P) := by
        show _ = _
        rw [val_snoc, hql.out, Nat.pow_succ, val_take_succ, Hx.out]
        exact mulStep _ _ _ t x K d u T P hv.out hT.symm (by omega)
      have Hql : Hid (∀ n, (q ++ [n]).length = j + 1) := by intro n; have := hql.out; simp; omega
      have hd2 : d < 4294967296 := by omega
      have hu2 : u ≤ 10 := by omega
      have hm1 : IntKind.u64.wrap ((x : Int) * (K : Int)) = ((x * K : Nat) : Int) := by
        have e : (x : Int) * (K : Int) = ((x * K : Nat) : Int) := by simp
        rw [e, IntKind.wrap_u64]
        omega
      have hm2 : IntKind.u64.wrap ((t : Int) + ((x * K : Nat) : Int)) = (T : Int) := by rw [IntKind.wrap_u64]; omega
      obtain ⟨z, hz⟩ : ∃ z, x * K = z := ⟨_, rfl⟩
      rw [hz] at hm1 hm2 hxK hT
      have hT5 : T ≤ 42949672960 := by omega
      have HT : Hid (t + z = T) := hT
      have HD : Hid (T % 4294967296 = d) := hd
      have HU : Hid (T / 4294967296 = u) := hu
      clear hT hd hu hz
      go_wp2_with (at_builtin; refine wpList_app32 rfl _ _ rfl q _ rfl _ d ?_ rfl hown hkp hql' ?_; rotate_left; intro v' w1' hown' hk')
      · refine ⟨⟨j + 1, u, _, by omega, by go_num, ?_, hu2, hown', Hql.out _, Lim_snoc hmq _ hd2, HV, hk'⟩, by simp [intOf]; omega⟩
        rw [← HU.out]
        congr 1
      · rw [← HD.out]
        simp
    · have hke : j = la.length := by omega
      subst hke
      rw [List.take_of_length_le (Nat.le_refl _)] at hv
      have HF : Hid (val (q ++ [t]) = K * val la + P) := by
        show _ = _
        rw [val_snoc, hql.out, Nat.mul_comm]
        exact hv.out
      have Hql : Hid ((q ++ [t]).length = la.length + 1) := by show _ = _; rw [List.length_append, hql.out]; rfl
      have hmt : Lim (q ++ [t]) := Lim_snoc hmq _ (by omega)
      replace hmt : Hid _ := hmt
      go_wp2_with (first
        | (go_at_call 49; obtain ⟨vs2, cq2, rfl, hcq2, hrq2⟩ := hown'.shape; refine (norm_any vs2 cq2 (q ++ [t]) _ hcq2 (by rw [Hql.out]; omega) hrq2).mono ?_; rintro e w5 ⟨rfl, rfl⟩)
        | (at_builtin; refine wpList_app32 rfl _ _ rfl q _ rfl _ t ?_ rfl hown hkp hql' ?_; rotate_left; intro v' w1' hown' hk'))
      · go_ret
        have hcut : ((q ++ [t]).take (nl (q ++ [t]))).length = nl (q ++ [t]) := by rw [List.length_take]; have := nl_le (q ++ [t]); omega
        exact ⟨_, rfl, ⟨vs2, cq2, (q ++ [t]).take (nl (q ++ [t])), by rw [hcut]; rfl, by have := nl_le (q ++ [t]); omega, hrq2.take _, Lim_take hmt.out _, Nrm_take _, by rw [val_take_nl]; exact HF.out⟩, hk'⟩
      · rfl
theorem times_nv (v : Value) (n k K P : Nat) (w : World) (h : Nv w v n) (hn : n < 4294967296 ^ k) (hk : k ≤ 1000) (hK : K ≤ 10) (hP : P ≤ 10) :
    Calls Tryd.prog 31 #[v, .int .u32 (K : Int), .int .u32 (P : Int)] w fun e w' => ∃ v', e = .returned v' ∧ Nv w' v' (K * n + P) ∧ Keep w w' := by
  obtain ⟨a, c, l, rfl, hlc, hr, hm, hnr, rfl, hlk⟩ := h.few hn
  exact times_any a c l K P w (by omega) hK hP hr hm
set_option maxRecDepth 100000 in
set_option maxHeartbeats 800000 in
theorem ten_nv (v : Value) (n m k : Nat) (w : World) (h : Nv w v n) (hn : n * 10 ^ m < 4294967296 ^ k) (hk : k ≤ 1000) (hm : m ≤ 1000000) :
    Calls Tryd.prog 33 #[v, .int .i64 (m : Int)] w fun e w' => ∃ v', e = .returned v' ∧ Nv w' v' (n * 10 ^ m) ∧ Keep w w' := by
  have HN : Hid (Nv w v n) := h
  have HB : Hid (n * 10 ^ m < 4294967296 ^ k) := hn
  clear h hn
  go_enter Tryd.func33, Tryd.ntmps33
  go_wp2_with fail
  go_loopg [0, 5] (m) (fun g v0 v5 wx => ∃ i : Nat, i + g = m ∧ v5 = .int .i64 (i : Int) ∧ Nv wx v0 (n * 10 ^ i) ∧ Keep w wx)
  case atStart => exact ⟨0, by omega, rfl, by simpa using HN.out, Keep.refl _⟩
  case round =>
    obtain ⟨i, hig, rfl, hv, hkp⟩ := hrel
    have HV : Hid (Nv wr _ (n * 10 ^ i)) := hv
    have KP : Hid (Keep w wr) := hkp
    clear hv hkp
    by_cases hil : i < m
    · have hile : (i : Int) < (m : Int) := by omega
      have hb : n * 10 ^ i < 4294967296 ^ k := Nat.lt_of_le_of_lt (Nat.mul_le_mul_left _ (Nat.pow_le_pow_right (by omega) (by omega))) HB.out
      have hT := times_nv _ (n * 10 ^ i) k 10 0 wr HV.out hb hk (by omega) (by omega)
      have e10 : 10 * (n * 10 ^ i) + 0 = n * 10 ^ (i + 1) := by rw [Nat.pow_succ, Nat.add_zero, Nat.mul_comm, Nat.mul_assoc]
      rw [e10] at hT
      clear e10 hb
      replace hT : Hid (Calls Tryd.prog 31 #[_, .int .u32 10, .int .u32 0] wr _) := hT
      go_wp2_with (go_at_call 31; refine hT.out.mono ?_; rintro e w2 ⟨v', rfl, n2, k2⟩; have N2 : Hid (Nv w2 v' (n * 10 ^ (i + 1))) := n2; have K2 : Hid (Keep wr w2) := k2; clear n2 k2)
      go_roundg (gk - 1)
      case measure => omega
      case rel => exact ⟨i + 1, by omega, by simp, N2.out, KP.out.trans K2.out⟩
    · obtain rfl : i = m := by omega
      have hile : ¬ (i : Int) < (i : Int) := by omega
      go_wp2_with fail
      go_ret
      exact ⟨_, rfl, HV.out, KP.out⟩
set_option maxRecDepth 100000 in
theorem Ten_nv (v : Value) (n m k : Nat) (w : World) (h : Nv w v n) (hn : n * 10 ^ m < 4294967296 ^ k) (hk : k ≤ 1000) (hm : m ≤ 1000000) :
    Calls Tryd.prog 18 #[v, .int .i64 (m : Int)] w fun e w' => ∃ v', e = .returned v' ∧ Nv w' v' (n * 10 ^ m) ∧ Keep w w' := by
  have h := ten_nv v n m k w h hn hk hm
  clear hn
  generalize n * 10 ^ m = N at h ⊢
  go_enter Tryd.func18, Tryd.ntmps18
  go_wp2_with (go_at_call 33; refine h.mono ?_; rintro e w2 ⟨v', rfl, n2, k2⟩)
  go_ret
  exact ⟨_, rfl, n2, k2⟩
end Go.Proofs.YtgciimjcdhallaaDoor.Li
