import Derived.Test.YtpdjpjkieafnbaaGreatDoorNB2
import Derived.Test.YtpdjpjkieafnbaaGreatDoorNC6
import Derived.Test.YtpdjpjkieafnbaaGreatDoorZA
import Derived.Test.YtpdjpjkieafnbaaGreatDoorLC18
import Derived.Laws.CopyOwn
import Derived.Maps.AppendAt
import Derived.Laws.BytesArg
set_option linter.unusedVariables false
set_option linter.unusedSimpArgs false
namespace Go.Proofs.YtpdjpjkieafnbaaGreatDoor.Li
open Go.RowKit Lb
theorem mulStep (q A P c x k d c' T : Nat) (B : Nat) (hv : q + c * P = k * A + B) (hT : T = c + x * k) (hd : T = d + 4294967296 * c') : (q + P * d) + c' * (P * 4294967296) = k * (A + x * P) + B := by
  have h1 : P * T = P * d + c' * (P * 4294967296) := by
    rw [hd, Nat.mul_add]
    congr 1
    rw [Nat.mul_comm c', Nat.mul_assoc]
  have h2 : P * T = c * P + k * (x * P) := by
    rw [hT, Nat.mul_add, Nat.mul_comm P c]
    congr 1
    rw [Nat.mul_comm x k, Nat.mul_left_comm, Nat.mul_comm P x]
  rw [Nat.mul_add]
  omega
set_option maxRecDepth 100000 in
set_option maxHeartbeats 800000 in
theorem times_any (a : Option Addr) (ca : Nat) (la : List Nat) (K P : Nat) (w : World) (hla : la.length ≤ 1000000) (hK : K ≤ 16) (hP : P ≤ 16) (hra : Rd w a la) (hma : Lim la) :
    Calls Tryz.prog 47 #[.slice a la.length ca, .int .u32 (K : Int), .int .u32 (P : Int)] w fun e w' => ∃ v, e = .returned v ∧ Nv w' v (K * val la + P) ∧ Keep w w' := by
  go_enter Tryz.func47, Tryz.ntmps47
  go_wp2_with fail
  go_loopw [7, 8, 9] (fun v c i wr => ∃ (j t : Nat) (q : List Nat), j ≤ la.length ∧ i = .int .i64 j ∧ c = .int .u64 t ∧ t ≤ 16 ∧ Own w.heap.size wr v q ∧ Hid (q.length = j) ∧ Lim q ∧ Hid (val q + t * 4294967296 ^ j = K * val (la.take j) + P) ∧ Keep w wr) (fun _ _ i _ => la.length - (intOf i).toNat)
  case atStart => exact ⟨0, P, [], by omega, rfl, rfl, hP, World.ownsRow_nil _ _ _ _, by show _ = _; simp, by intro x hx; simp at hx, by show _ = _; simp [val], Keep.refl _⟩
  case round =>
    obtain ⟨j, t, q, hkk, rfl, rfl, ht2, hown, hql, hmq, hv, hkp⟩ := hrel
    have hql' : q.length < 35184372088832 := by rw [hql.out]; omega
    obtain ⟨vs, cq, rfl, hcq, hrq⟩ := hown.shape
    clear hrq
    by_cases hkL : j < la.length
    · obtain ⟨b1, o1, rfl, hx1⟩ := (hra.keep hkp) j hkL
      obtain ⟨x, hx⟩ : ∃ x, la.getD j 0 = x := ⟨_, rfl⟩
      have hxl : x < 4294967296 := hx ▸ Lim_getD hma _
      rw [hx] at hx1
      have Hx : Hid (la.getD j 0 = x) := hx; clear hx
      obtain ⟨T, hT⟩ : ∃ T : Nat, t + x * K = T := ⟨_, rfl⟩
      have hxK : x * K ≤ 68719476720 := Nat.le_trans (Nat.mul_le_mul (show x ≤ 4294967295 by omega) hK) (by omega)
      obtain ⟨d, hd⟩ : ∃ d : Nat, T % 4294967296 = d := ⟨_, rfl⟩
      obtain ⟨u, hu⟩ : ∃ u : Nat, T / 4294967296 = u := ⟨_, rfl⟩
      have HV : Hid (val (q ++ [d]) + u * 4294967296 ^ (j + 1) = K * val (la.take (j + 1)) + P) := by
        show _ = _
        rw [val_snoc, hql.out, Nat.pow_succ, val_take_succ, Hx.out]
        exact mulStep _ _ _ t x K d u T P hv.out hT.symm (by omega)
      have Hql : Hid (∀ n, (q ++ [n]).length = j + 1) := by intro n; have := hql.out; simp; omega
      have hd2 : d < 4294967296 := by omega
      have hu2 : u ≤ 16 := by omega
      have hm1 : IntKind.u64.wrap ((x : Int) * (K : Int)) = ((x * K : Nat) : Int) := by
        have e : (x : Int) * (K : Int) = ((x * K : Nat) : Int) := by simp
        rw [e, IntKind.wrap_u64]
        omega
      have hm2 : IntKind.u64.wrap ((t : Int) + ((x * K : Nat) : Int)) = (T : Int) := by rw [IntKind.wrap_u64]; omega
      obtain ⟨z, hz⟩ : ∃ z, x * K = z := ⟨_, rfl⟩
      rw [hz] at hm1 hm2 hxK hT
      have hT5 : T ≤ 68719476736 := by omega
      have HT : Hid (t + z = T) := hT
      have HD : Hid (T % 4294967296 = d) := hd
      have HU : Hid (T / 4294967296 = u) := hu
      clear hT hd hu hz
      go_wp2_with (at_builtin; refine wpList_app32 rfl _ _ rfl q _ rfl _ d ?_ rfl hown hkp hql' ?_; rotate_left; intro v' w1' hown' hk')
      · refine ⟨⟨j + 1, u, _, by omega, by go_num, ?_, hu2, hown', Hql.out _, Lim_snoc hmq _ hd2, HV, hk'⟩, by simp [intOf]; omega⟩
        rw [← HU.out]
        congr 1
      · rw [← HD.out]
        simp
    · have hke : j = la.length := by omega
      subst hke
      rw [List.take_of_length_le (Nat.le_refl _)] at hv
      have HF : Hid (val (q ++ [t]) = K * val la + P) := by
        show _ = _
        rw [val_snoc, hql.out, Nat.mul_comm]
        exact hv.out
      have Hql : Hid ((q ++ [t]).length = la.length + 1) := by show _ = _; rw [List.length_append, hql.out]; rfl
      have hmt : Lim (q ++ [t]) := Lim_snoc hmq _ (by omega)
      replace hmt : Hid _ := hmt
      go_wp2_with (first
        | (go_at_call 93; obtain ⟨vs2, cq2, rfl, hcq2, hrq2⟩ := hown'.shape; refine (norm_any vs2 cq2 (q ++ [t]) _ hcq2 (by rw [Hql.out]; omega) hrq2).mono ?_; rintro e w5 ⟨rfl, rfl⟩)
        | (at_builtin; refine wpList_app32 rfl _ _ rfl q _ rfl _ t ?_ rfl hown hkp hql' ?_; rotate_left; intro v' w1' hown' hk'))
      · go_ret
        have hcut : ((q ++ [t]).take (nl (q ++ [t]))).length = nl (q ++ [t]) := by rw [List.length_take]; have := nl_le (q ++ [t]); omega
        exact ⟨_, rfl, ⟨vs2, cq2, (q ++ [t]).take (nl (q ++ [t])), by rw [hcut]; rfl, by have := nl_le (q ++ [t]); omega, hrq2.take _, Lim_take hmt.out _, Nrm_take _, by rw [val_take_nl]; exact HF.out⟩, hk'⟩
      · rfl
theorem times_nv (v : Value) (n k K P : Nat) (w : World) (h : Nv w v n) (hn : n < 4294967296 ^ k) (hk : k ≤ 100000) (hK : K ≤ 16) (hP : P ≤ 16) :
    Calls Tryz.prog 47 #[v, .int .u32 (K : Int), .int .u32 (P : Int)] w fun e w' => ∃ v', e = .returned v' ∧ Nv w' v' (K * n + P) ∧ Keep w w' := by
  obtain ⟨a, c, l, rfl, hlc, hr, hm, hnr, rfl, hlk⟩ := h.few hn
  exact times_any a c l K P w (by omega) hK hP hr hm
set_option maxRecDepth 100000 in
set_option maxHeartbeats 800000 in
theorem ten_nv (v : Value) (n m k : Nat) (w : World) (h : Nv w v n) (hn : n * 10 ^ m < 4294967296 ^ k) (hk : k ≤ 100000) (hm : m ≤ 1000000) :
    Calls Tryz.prog 53 #[v, .int .i64 (m : Int)] w fun e w' => ∃ v', e = .returned v' ∧ Nv w' v' (n * 10 ^ m) ∧ Keep w w' := by
  have HN : Hid (Nv w v n) := h
  have HB : Hid (n * 10 ^ m < 4294967296 ^ k) := hn
  clear h hn
  go_enter Tryz.func53, Tryz.ntmps53
  go_wp2_with fail
  go_loopg [0, 5] (m) (fun g v0 v5 wx => ∃ i : Nat, i + g = m ∧ v5 = .int .i64 (i : Int) ∧ Nv wx v0 (n * 10 ^ i) ∧ Keep w wx)
  case atStart => exact ⟨0, by omega, rfl, by simpa using HN.out, Keep.refl _⟩
  case round =>
    obtain ⟨i, hig, rfl, hv, hkp⟩ := hrel
    have HV : Hid (Nv wr _ (n * 10 ^ i)) := hv
    have KP : Hid (Keep w wr) := hkp
    clear hv hkp
    by_cases hil : i < m
    · have hile : (i : Int) < (m : Int) := by omega
      have hb : n * 10 ^ i < 4294967296 ^ k := Nat.lt_of_le_of_lt (Nat.mul_le_mul_left _ (Nat.pow_le_pow_right (by omega) (by omega))) HB.out
      have hT := times_nv _ (n * 10 ^ i) k 10 0 wr HV.out hb hk (by omega) (by omega)
      have e10 : 10 * (n * 10 ^ i) + 0 = n * 10 ^ (i + 1) := by rw [Nat.pow_succ, Nat.add_zero, Nat.mul_comm, Nat.mul_assoc]
      rw [e10] at hT
      clear e10 hb
      replace hT : Hid (Calls Tryz.prog 47 #[_, .int .u32 10, .int .u32 0] wr _) := hT
      go_wp2_with (go_at_call 47; refine hT.out.mono ?_; rintro e w2 ⟨v', rfl, n2, k2⟩; have N2 : Hid (Nv w2 v' (n * 10 ^ (i + 1))) := n2; have K2 : Hid (Keep wr w2) := k2; clear n2 k2)
      go_roundg (gk - 1)
      case measure => omega
      case rel => exact ⟨i + 1, by omega, by simp, N2.out, KP.out.trans K2.out⟩
    · obtain rfl : i = m := by omega
      have hile : ¬ (i : Int) < (i : Int) := by omega
      go_wp2_with fail
      go_ret
      exact ⟨_, rfl, HV.out, KP.out⟩
end Go.Proofs.YtpdjpjkieafnbaaGreatDoor.Li
set_option linter.unusedVariables false
set_option linter.unusedSimpArgs false
namespace Go.Proofs.YtpdjpjkieafnbaaGreatDoor.Li
open Go.RowKit Lb Nr
/-- A decimal's text, put together: a sign, digits, a point and digits, a power. -/
def dtx (ng : Bool) (A B P : List UInt8) : List UInt8 := (if ng then [45] else []) ++ (A ++ ((if B = [] then [] else 46 :: B) ++ P))
def ptx (ns : Bool) (E : List UInt8) : List UInt8 := 101 :: ((if ns then [45] else []) ++ E)
theorem tw_end {p : UInt8 → Bool} {A R : List UInt8} (hA : ∀ b ∈ A, p b = true) (hR : R = [] ∨ ∃ c r, R = c :: r ∧ p c = false) : (A ++ R).takeWhile p = A := by
  induction A with
  | nil =>
    rcases hR with rfl | ⟨c, r, rfl, hc⟩
    · rfl
    · simp [hc]
  | cons a A ih =>
    rw [List.cons_append, List.takeWhile_cons_of_pos (hA a (by simp)), ih (fun b hb => hA b (by simp [hb]))]
theorem drop_len {α : Type} (A R : List α) : (A ++ R).drop A.length = R := by simp
theorem isD_not {c : UInt8} (h : c.toNat < 48 ∨ 57 < c.toNat) : isD c = false := by
  unfold isD
  exact decide_eq_false (by omega)
theorem isD_in {c : UInt8} (h : isD c = true) : 48 ≤ c.toNat ∧ c.toNat ≤ 57 := of_decide_eq_true h
theorem tk_at (X R ts : List UInt8) : tk (X ++ R) ts X.length = (match R with | [] => false | c :: _ => decide (c ∈ ts)) := by
  unfold tk
  cases R with
  | nil => simp
  | cons c r =>
    have e : (X ++ c :: r).getD X.length 0 = c := by simp [List.getD]
    rw [e]
    show _ = decide (c ∈ ts)
    by_cases h : c ∈ ts
    · rw [decide_eq_true h, decide_eq_true]
      exact ⟨by simp, h⟩
    · rw [decide_eq_false h, decide_eq_false]
      exact fun q => h q.2
/-- What a decimal's text says, its parts told. -/
theorem dtx_parts (ng : Bool) (A B : List UInt8) (P : List UInt8) (hA : allD A) (hA0 : A ≠ []) (hB : allD B) (hP : P = [] ∨ ∃ ns E, P = ptx ns E ∧ allD E ∧ E ≠ []) :
    cNg (dtx ng A B P) = ng ∧ cHx (dtx ng A B P) = false ∧ cWh (dtx ng A B P) = A ∧ cPt (dtx ng A B P) = B ∧ cGo (dtx ng A B P) = true ∧ (∃ X, X ++ P = dtx ng A B P ∧ X.length = cK4 (dtx ng A B P)) := by
  have hRhead : ∀ R, R = (if B = [] then [] else 46 :: B) ++ P → R = [] ∨ ∃ c r, R = c :: r ∧ (c = 46 ∨ c = 101) := by
    intro R hR
    by_cases hb : B = []
    · rw [if_pos hb, List.nil_append] at hR
      rcases hP with rfl | ⟨ns, E, rfl, -, -⟩
      · exact .inl hR
      · exact .inr ⟨101, _, hR, .inr rfl⟩
    · rw [if_neg hb] at hR
      exact .inr ⟨46, _, hR, .inl rfl⟩
  obtain ⟨a, A', rfl⟩ := List.exists_cons_of_ne_nil hA0
  have ha := isD_in (hA a (by simp))
  obtain ⟨R, hR⟩ : ∃ R, R = (if B = [] then [] else 46 :: B) ++ P := ⟨_, rfl⟩
  have hs : dtx ng (a :: A') B P = (if ng then [45] else []) ++ (a :: A' ++ R) := by unfold dtx; rw [← hR]
  have hn : cNg (dtx ng (a :: A') B P) = ng := by
    rw [hs]
    unfold cNg Lib.hasPrefix
    cases ng
    · have : a ≠ 45 := fun e => by rw [e] at ha; exact absurd ha.1 (by decide)
      simp only [Bool.false_eq_true, if_false, List.nil_append, List.cons_append, List.isPrefixOf]
      simp [Ne.symm this]
    · simp [List.isPrefixOf]
  have hk1 : (dtx ng (a :: A') B P).drop (cK1 (dtx ng (a :: A') B P)) = a :: A' ++ R := by
    unfold cK1
    rw [hn, hs]
    cases ng <;> simp
  have hx : cHx (dtx ng (a :: A') B P) = false := by
    unfold cHx
    rw [hk1]
    unfold Lib.hasPrefix
    have key : ∀ c r, (A' ++ R) = c :: r → c ≠ 120 := by
      intro c r h e
      subst e
      cases A' with
      | nil =>
        rw [List.nil_append] at h
        rcases hRhead R hR with h0 | ⟨c, r', h1, h2⟩
        · rw [h0] at h; cases h
        · rw [h1] at h
          injection h with h3
          rw [h3] at h2
          revert h2
          decide
      | cons b A'' =>
        have hb := isD_in (hA b (by simp))
        rw [List.cons_append] at h
        injection h with h3
        rw [h3] at hb
        revert hb
        decide
    rw [List.cons_append]
    cases hAR : A' ++ R with
    | nil => simp [List.isPrefixOf]
    | cons c r =>
      have := key c r hAR
      simp [List.isPrefixOf, Ne.symm this]
  have hk2 : cK2 (dtx ng (a :: A') B P) = cK1 (dtx ng (a :: A') B P) := by unfold cK2; rw [hx]; rfl
  have hw : cWh (dtx ng (a :: A') B P) = a :: A' := by
    unfold cWh
    rw [hk2, hk1, hx, isX_fun]
    apply tw_end hA
    rcases hRhead R hR with h | ⟨c, r, h1, h2⟩
    · exact .inl h
    · refine .inr ⟨c, r, h1, isD_not ?_⟩
      rcases h2 with rfl | rfl <;> decide
  have hK1 : cK1 (dtx ng (a :: A') B P) = (if ng then [45] else [] : List UInt8).length := by unfold cK1; rw [hn]; cases ng <;> rfl
  have hK3 : cK3 (dtx ng (a :: A') B P) = ((if ng then [45] else [] : List UInt8) ++ (a :: A')).length := by
    unfold cK3
    rw [hk2, hw, hK1, List.length_append]
  have hs2 : dtx ng (a :: A') B P = ((if ng then [45] else []) ++ (a :: A')) ++ R := by rw [hs, List.append_assoc]
  have hd3 : (dtx ng (a :: A') B P).drop (cK3 (dtx ng (a :: A') B P)) = R := by
    rw [hK3]
    conv => lhs; rw [hs2]
    exact drop_len _ _
  have hwne : (cWh (dtx ng (a :: A') B P) == []) = false := by rw [hw]; rfl
  by_cases hb : B = []
  · have hRP : R = P := by rw [hR, if_pos hb, List.nil_append]
    have hdot : cDot (dtx ng (a :: A') B P) = false := by
      unfold cDot
      rw [hd3, hRP]
      rcases hP with rfl | ⟨ns, E, rfl, -, -⟩
      · simp [Lib.hasPrefix, List.isPrefixOf]
      · simp [Lib.hasPrefix, List.isPrefixOf, ptx]
    refine ⟨hn, hx, hw, ?_, ?_, _, (hs2.trans (by rw [hRP])).symm, ?_⟩
    · unfold cPt; rw [hdot, hb]; rfl
    · unfold cGo; rw [hwne, hdot]; rfl
    · unfold cK4; rw [hdot]; exact hK3.symm
  · have hRB : R = 46 :: (B ++ P) := by rw [hR, if_neg hb, List.cons_append]
    have hdot : cDot (dtx ng (a :: A') B P) = true := by
      unfold cDot
      rw [hd3, hRB, hwne]
      simp [Lib.hasPrefix, List.isPrefixOf]
    have hpt : cPt (dtx ng (a :: A') B P) = B := by
      unfold cPt
      rw [hdot, if_pos rfl, hx, isX_fun, ← List.drop_drop, hd3, hRB]
      show (B ++ P).takeWhile isD = B
      apply tw_end hB
      rcases hP with rfl | ⟨ns, E, rfl, -, -⟩
      · exact .inl rfl
      · exact .inr ⟨101, _, rfl, by decide⟩
    refine ⟨hn, hx, hw, hpt, ?_, ((if ng then [45] else []) ++ (a :: A')) ++ (46 :: B), ?_, ?_⟩
    · unfold cGo
      rw [hwne, hdot, hpt]
      have : (B == []) = false := by rw [beq_eq_false_iff_ne]; exact hb
      rw [this]; rfl
    · rw [hs2, hRB]; simp
    · unfold cK4
      rw [hdot, if_pos rfl, hpt, hK3]
      simp
      omega
theorem tw_all' {E : List UInt8} (h : allD E) : E.takeWhile isD = E := by
  have := tw_end (p := isD) (A := E) (R := []) h (.inl rfl)
  rwa [List.append_nil] at this
theorem at_end {s X P : List UInt8} {k : Nat} (hX : X ++ P = s) (hk : X.length = k) (hP : P = []) : cpE false s k = false ∧ cpO false s k = true ∧ cpN false s k = false ∧ cpD false s k = [] := by
  have hE : cpE false s k = false := by
    unfold cpE
    rw [← hX, ← hk, tk_at, hP]
  refine ⟨hE, ?_, ?_, ?_⟩
  · unfold cpO
    rw [hE]
    have : k = s.length := by rw [← hX, hP, List.append_nil, hk]
    simp [this]
  · unfold cpN; rw [hE]; rfl
  · unfold cpD; rw [hE]; rfl
theorem at_pow {s X : List UInt8} {k : Nat} (ns : Bool) (E : List UInt8) (hX : X ++ ptx ns E = s) (hk : X.length = k) (hE : allD E) (hE0 : E ≠ []) : cpO false s k = true ∧ cpN false s k = ns ∧ cpD false s k = E := by
  obtain ⟨a, E', rfl⟩ := List.exists_cons_of_ne_nil hE0
  have ha := isD_in (hE a (by simp))
  have h1 : cpE false s k = true := by
    unfold cpE
    rw [← hX, ← hk, tk_at]
    show decide ((101 : UInt8) ∈ mkE false) = true
    decide
  have hs2 : s = (X ++ [101]) ++ ((if ns then [45] else []) ++ (a :: E')) := by rw [← hX]; unfold ptx; simp
  have hk2 : k + 1 = (X ++ [101]).length := by simp [hk]
  have h2 : cpS s k = ns := by
    unfold cpS
    rw [hs2, hk2, tk_at]
    cases ns
    · have : a ∉ ([43, 45] : List UInt8) := by
        intro q
        simp only [List.mem_cons, List.not_mem_nil, or_false] at q
        rcases q with q | q
        all_goals
          rw [q] at ha
          exact absurd ha.1 (by decide)
      exact decide_eq_false this
    · show decide ((45 : UInt8) ∈ ([43, 45] : List UInt8)) = true
      decide
  have h3 : tk s [45] (k + 1) = ns := by
    rw [hs2, hk2, tk_at]
    cases ns
    · have : a ∉ ([45] : List UInt8) := by
        intro q
        simp only [List.mem_cons, List.not_mem_nil, or_false] at q
        rw [q] at ha
        exact absurd ha.1 (by decide)
      exact decide_eq_false this
    · show decide ((45 : UInt8) ∈ ([45] : List UInt8)) = true
      decide
  have hJ : cpJ s k = k + 1 + (if ns then [45] else [] : List UInt8).length := by
    unfold cpJ
    rw [h2]
    cases ns <;> simp
  have hD : cpD false s k = a :: E' := by
    unfold cpD
    rw [if_pos h1, hJ]
    have : s.drop (k + 1 + (if ns then [45] else [] : List UInt8).length) = a :: E' := by
      rw [hs2, ← List.append_assoc, hk2, ← List.length_append]
      exact drop_len _ _
    rw [this]
    exact tw_all' hE
  have hK : cpK false s k = s.length := by
    unfold cpK
    rw [if_pos h1, hD, hJ, hk2]
    conv => rhs; rw [hs2]
    simp only [List.length_append]
    omega
  refine ⟨?_, ?_, hD⟩
  · unfold cpO
    rw [if_pos h1, hD, hK]
    simp
  · unfold cpN
    rw [h1, h3]
    rfl
/-- EVERY DECIMAL'S TEXT IS READ AS THE NUMBER NEAREST TO WHAT IT SAYS. -/
theorem Read_txt (ng : Bool) (A B P : List UInt8) (V : Int) (hA : allD A) (hA0 : A ≠ []) (hB : allD B) (hP : (P = [] ∧ V = 0) ∨ ∃ ns E, P = ptx ns E ∧ allD E ∧ E ≠ [] ∧ V = pwN ns E) (hl : (dtx ng A B P).length ≤ 4096) (w : World) :
    Calls Tryz.prog 12 #[.string ⟨(dtx ng A B P).toArray⟩] w fun e w' =>
      ∃ x : Nat, e = .returned (.tuple #[.float .f64 (x + sg ng), .int .i64 0, .int .i64 0]) ∧ NB (nat (A ++ B) * 10 ^ (V - (B.length : Int)).toNat) (10 ^ (-(V - (B.length : Int))).toNat) x ∧ Keep w w' := by
  have hP' : P = [] ∨ ∃ ns E, P = ptx ns E ∧ allD E ∧ E ≠ [] := by
    rcases hP with h | ⟨ns, E, h1, h2, h3, -⟩
    · exact .inl h.1
    · exact .inr ⟨ns, E, h1, h2, h3⟩
  obtain ⟨p1, p2, p3, p4, p5, X, hX, hk⟩ := dtx_parts ng A B P hA hA0 hB hP'
  obtain ⟨g1, g2, g3, g4⟩ := way_go p5
  have hall : cOk (dtx ng A B P) = true ∧ rdP (dtx ng A B P) = V - (B.length : Int) := by
    rw [p2] at g1 g2 g4
    unfold rdP
    rw [g1, g2, g4, p4]
    rcases hP with ⟨h1, h2⟩ | ⟨ns, E, h1, h2, h3, h4⟩
    · obtain ⟨q1, q2, q3, q4⟩ := at_end hX hk h1
      refine ⟨q2, ?_⟩
      rw [q3, q4, h2]
      have : pwN false [] = 0 := by decide
      rw [this]
    · subst h1
      obtain ⟨q1, q2, q3⟩ := at_pow ns E hX hk h2 h3
      exact ⟨q1, by rw [q2, q3, h4]⟩
  have hN : rdN (dtx ng A B P) = nat (A ++ B) := by unfold rdN; rw [p3, p4]
  have h := Read_dec (dtx ng A B P) w hl hall.1 p2
  rw [p1, hN, hall.2] at h
  exact h
end Go.Proofs.YtpdjpjkieafnbaaGreatDoor.Li
set_option linter.unusedVariables false
set_option linter.unusedSimpArgs false
namespace Go.Proofs.YtpdjpjkieafnbaaGreatDoor.Li
open Go.RowKit Lb
theorem Below.of_grownZ {wr w1 : World} (o : Obj) (h2 : (wr.alloc o).grownBy w1 (some wr.heap.size)) : Keep wr w1 := by
  refine Below.grown ((Keep.refl wr).alloc o) h2 (by simp) ?_
  intro k hk'
  simp only [Option.some.injEq] at hk'
  omega
/-- append([]uint32{}, l...). -/
theorem wpList_copy32z {wr : World} {ops : Array Oper} {rest : List Oper} {o : Oper} {a : Act} {Q : Exit → Act → World → Prop} (hgd : o.guard = none) (s x : Operand)
    (ho : o.op = .call { callee := .builtin .append, args := #[s, x], argTypes := #[52, 52] }) (l : List Nat) (ad : Option Addr) (c : Nat) (hs : a.eval s = .slice (some ⟨wr.heap.size, 0, none⟩) 0 0)
    (hx : a.eval x = .slice ad l.length c) (hr : Rd wr ad l) (hlen : l.length ≤ 35184372088000)
    (hK : ∀ v' w1, Own wr.heap.size w1 v' l → Keep wr w1 → wpList Tryz.prog ops Q rest (a.put o.dst v') w1) :
    wpList Tryz.prog ops Q (o :: rest) a (wr.alloc (.cells #[] 40)) := by
  obtain ⟨i0, hi, hz0, hz1, hz2⟩ := info_parts i62
  have hown : Own wr.heap.size (wr.alloc (.cells #[] 40)) (.slice (some ⟨wr.heap.size, 0, none⟩) 0 0) [] := ⟨rfl, .inr ⟨wr.heap.size, 0, #[], rfl, Nat.le_refl _, heap_alloc_new _ _, Nat.le_refl _, by simp [maxLen], rfl, rfl⟩⟩
  have hr' := hr.keep ((Keep.refl wr).alloc (.cells #[] 40))
  rcases ad with _ | ad
  · obtain rfl : l = [] := by
      by_cases h : l = []
      · exact h
      · obtain ⟨b, o, e, -⟩ := hr 0 (List.length_pos_iff.2 h); cases e
    refine wpList_plain hgd fun K hK' => ?_
    have hrun : (Builtin.append_ #[52, 52] o.type #[.slice (some ⟨wr.heap.size, 0, none⟩) 0 0, .slice none 0 c]).run Tryz.prog (wr.alloc (.cells #[] 40)) = .ok (.slice (some ⟨wr.heap.size, 0, none⟩) 0 0) (wr.alloc (.cells #[] 40)) := by
      go_simp
    unfold Oper.wp
    simp [execOp, ho, resolve, invoke, builtin, hs, hx, hrun, Result.andThen]
    exact hK' _ _ (hK _ _ hown ((Keep.refl wr).alloc _))
  refine wpList_append_own _ hgd s x 52 ho wr.heap.size 40 i0 (.int .u32 0) 1 4 Tryz.underlying52 hi hz0 hz1 hz2 rfl (by decide) _ _ _ hs hown ad l.length c (U l) hx (by simp [U]) ?_ (U_one l) ?_ ?_ (by simp) ?_
  · intro j u hj
    have hjl : j < l.length := by have := (List.getElem?_eq_some_iff.1 hj).1; simpa [U_length] using this
    rw [U_get l j hjl] at hj
    obtain ⟨b', o', e, hc⟩ := hr' j hjl
    simp only [Option.some.injEq] at e
    subst e
    have e2 : (Addr.mk b' o' none).add j = ⟨b', o' + j, none⟩ := by
      simp only [Addr.add]
      split
      · rename_i h; subst h; rfl
      · rfl
    rw [e2, hc, hj]
  · simp only [maxLen, List.length_nil]; omega
  · simp only [List.length_nil]; omega
  · intro v' w1 h1 h2 _
    refine hK v' w1 ?_ (Below.of_grownZ _ h2)
    unfold Own
    simpa [U] using h1
theorem convZ (w : World) (y : Nat) (hy : y < 256) : (convert 61 9 (.slice (some ⟨w.heap.size, 0, none⟩) 1 1)).run Tryz.prog (w.alloc (.cells #[.int .u8 (y : Int)] 5)) = .ok (.string ⟨#[UInt8.ofNat y]⟩) (w.alloc (.cells #[.int .u8 (y : Int)] 5)) := by
  have := run_convert_bytes_arg (P := Tryz.prog) (w.alloc (.cells #[.int .u8 (y : Int)] 5)) 61 5 Tryz.underlying61 Tryz.underlying5 w.heap.size 0 1 1 [(y : Int)] (by simp) (fun i hi => by
    obtain rfl : i = 0 := by simp at hi; omega
    rw [cell_of_row _ _ _ _ 5 (0, 0) (heap_alloc_new w _)]
    rfl) 9 Tryz.underlying9
  rw [this]
  simp [strOfNums]
theorem one_catZ (c : UInt8) (E : List UInt8) : ByteArray.mk #[c] ++ ByteArray.mk E.toArray = ⟨(c :: E).toArray⟩ := catB [c] E
end Go.Proofs.YtpdjpjkieafnbaaGreatDoor.Li
set_option linter.unusedVariables false
set_option linter.unusedSimpArgs false
namespace Go.Proofs.YtpdjpjkieafnbaaGreatDoor.Li
open Go.RowKit Lb
/-- A block whose head holds limbs. -/
def Hd (w : World) (g : Nat) (l : List Nat) : Prop := ∃ cur, w.heap[g]? = some (.cells cur 40 (0, 0)) ∧ l.length ≤ cur.size ∧ cur.toList.take l.length = U l
theorem Hd.cell {w : World} {g : Nat} {l : List Nat} (h : Hd w g l) (j : Nat) (hj : j < l.length) : w.cell? ⟨g, j, none⟩ = some (.int .u32 (l.getD j 0 : Nat)) := by
  obtain ⟨cur, hh, hs, ht⟩ := h
  rw [cell_of_row w g j _ 40 (0, 0) hh, ← Array.getElem?_toList, ← List.getElem?_take_of_lt hj, ht]
  exact U_get l j hj
theorem Hd.frozen {w : World} {g : Nat} {l : List Nat} (h : Hd w g l) (j : Nat) : w.frozen? ⟨g, j, none⟩ = false := by
  obtain ⟨cur, hh, -⟩ := h
  exact frozen_of_row w g j _ 40 hh
theorem Hd.set {w : World} {g : Nat} {l : List Nat} (h : Hd w g l) (j x : Nat) : Hd (w.setCell ⟨g, j, none⟩ (.int .u32 (x : Nat))) g (l.set j x) := by
  obtain ⟨cur, hh, hs, ht⟩ := h
  refine ⟨_, heap_setCell_same w g j _ 40 (.int .u32 (x : Nat)) hh, by simpa using hs, ?_⟩
  rw [Array.toList_setIfInBounds, List.length_set, List.take_set, ht]
  simp [U, List.map_set]
theorem Hd.rd {w : World} {g : Nat} {l : List Nat} (h : Hd w g l) : Rd w (some ⟨g, 0, none⟩) l := by
  intro j hj
  exact ⟨g, 0, rfl, by simpa using h.cell j hj⟩
theorem Own.hd {B : Nat} {w : World} {v : Value} {l : List Nat} (h : Own B w v l) (h0 : l ≠ []) : ∃ g c, v = .slice (some ⟨g, 0, none⟩) l.length c ∧ B ≤ g ∧ l.length ≤ c ∧ Hd w g l := by
  obtain ⟨-, h⟩ := h
  rcases h with ⟨-, e⟩ | ⟨g, cap, cur, e, hb, hh, hc, -, hs, ht⟩
  · exact absurd (List.eq_nil_of_length_eq_zero e) h0
  · rw [Nat.mul_one] at hs ht
    exact ⟨g, cap, e, hb, hc, cur, hh, by omega, ht⟩
set_option maxRecDepth 100000 in
set_option maxHeartbeats 800000 in
/-- The reference's digit. -/
theorem digit_any (a : Option Addr) (ca : Nat) (la : List Nat) (w : World) (h0 : la ≠ []) (hla : la.length ≤ 1000000) (hra : Rd w a la) (hma : Lim la) :
    Calls Tryz.prog 95 #[.slice a la.length ca, .int .u32 10] w fun e w' => ∃ v, e = .returned (.tuple #[v, .int .u32 ((val la % 10 : Nat) : Int)]) ∧ Nv w' v (val la / 10) ∧ Keep w w' := by
  obtain ⟨n, hn⟩ : ∃ n, la.length = n := ⟨_, rfl⟩
  go_enter Tryz.func95, Tryz.ntmps95
  go_wp2_with (at_builtin; refine wpList_copy32z rfl _ _ rfl la a ca ?_ ?_ hra (by omega) ?_; rotate_left 2; intro ve w1 Oe k1; obtain ⟨g, c, rfl, hg, hc, H1⟩ := Oe.hd h0)
  rotate_left 1
  · rfl
  · rfl
  rw [hn] at hc hla
  have H1' : Hd w1 g (la.take n ++ []) := by rw [← hn, List.take_length, List.append_nil]; exact H1
  have HN : Hid (la.length = n) := hn
  have e0 : val (la.drop n) = 0 := by rw [← hn, List.drop_length]; rfl
  clear H1 Oe hra hn
  go_loopw [7, 8] (fun t i wr => ∃ (k c' : Nat) (q : List Nat), k ≤ n ∧ i = .int .i64 ((k : Int) - 1) ∧ t = .int .u64 c' ∧ Hd wr g (la.take k ++ q) ∧ Hid (q.length + k = n) ∧ Lim q ∧ Hid (val q = val (la.drop k) / 10) ∧ Hid (c' = val (la.drop k) % 10) ∧ Keep w wr) (fun _ i _ => (intOf i + 1).toNat)
  case atStart => exact ⟨n, 0, [], Nat.le_refl _, rfl, rfl, H1', by show _ = _; simp, by intro x hx; simp at hx, by show _ = _; rw [e0]; rfl, by show _ = _; rw [e0], k1⟩
  case round =>
    clear H1' e0 k1
    obtain ⟨k, c', q, hk, rfl, rfl, hrk, hql, hmq, hv, hcv, hkp⟩ := hrel
    by_cases hkl : 0 < k
    · obtain ⟨m, hm1⟩ : ∃ m, k = m + 1 := ⟨k - 1, by omega⟩
      subst hm1
      have hmr : m < la.length := by have := HN.out; omega
      have hcc := hrk.cell m (by rw [List.length_append, List.length_take]; omega)
      rw [get_mid la _ m hmr] at hcc
      have hfz := hrk.frozen m
      obtain ⟨x, hx⟩ : ∃ x, la.getD m 0 = x := ⟨_, rfl⟩
      have hxl : x < 4294967296 := hx ▸ Lim_getD hma _
      rw [hx] at hcc
      have hcl : c' < 10 := by rw [hcv.out]; exact Nat.mod_lt _ (by omega)
      have hor := or64' c' x (by omega) hxl
      have hdrop : Hid (val (la.drop m) = x + 4294967296 * val (la.drop (m + 1))) := by
        show _ = _
        have h1 := val_drop_pred la (m + 1) (by omega) (by omega)
        rw [Nat.add_sub_cancel, hx] at h1
        exact h1
      have hst := divStep _ _ _ 10 x (by omega) hv.out hcv.out
      have Hst : Hid ((c' * 4294967296 + x) / 10 + 4294967296 * val q = (x + 4294967296 * val (la.drop (m + 1))) / 10 ∧ (c' * 4294967296 + x) % 10 = (x + 4294967296 * val (la.drop (m + 1))) % 10) := hst
      have hqb : (c' * 4294967296 + x) / 10 < 4294967296 := by omega
      have hidx : ((m + 1 : Nat) : Int) - 1 = (m : Int) := by omega
      have HX : Hid (la.getD m 0 = x) := hx
      clear hx hst
      rw [hidx]
      have hge : (0 : Int) ≤ (m : Int) := by omega
      have hgl : g < wr.heap.size := by obtain ⟨cur, hh, -⟩ := hrk; exact (Array.getElem?_eq_some_iff.1 hh).1
      have hmn : (m : Int) < (n : Int) := by have := HN.out; omega
      go_wp2_with fail
      go_roundw
      case rel =>
        refine ⟨m, (c' * 4294967296 + x) % 10, (c' * 4294967296 + x) / 10 :: q, by omega, rfl, by simp, ?_, ?_, ?_, ?_, ?_, hkp.setCell hg _⟩
        · have h1 := hrk.set m ((c' * 4294967296 + x) / 10)
          rw [set_mid la _ m _ hmr] at h1
          have ev : ((c' : Int) * 4294967296 + (x : Int)) / 10 = (((c' * 4294967296 + x) / 10 : Nat) : Int) := by omega
          rw [ev]
          exact h1
        · show _ = _
          have := hql.out
          simp
          omega
        · intro y hy
          simp at hy
          rcases hy with rfl | hy
          · exact hqb
          · exact hmq y hy
        · show _ = _
          rw [hdrop.out, val, Hst.out.1]
        · show _ = _
          rw [hdrop.out, Hst.out.2]
      case measure => simp [intOf]
    · obtain rfl : k = 0 := by omega
      have hq : q.length = n := by have := hql.out; omega
      rw [List.take_zero, List.nil_append] at hrk
      rw [List.drop_zero] at hv hcv
      have hrd := hrk.rd
      have hcl : c' < 10 := by rw [hcv.out]; exact Nat.mod_lt _ (by omega)
      have hN := fun wx h => norm_any (some ⟨g, 0, none⟩) c q wx (by omega) (by omega) h
      rw [hq] at hN
      go_wp2_with (go_at_call 93; refine (hN _ hrd).mono ?_; rintro e w5 ⟨rfl, rfl⟩)
      go_ret2
      have hcut : (q.take (nl q)).length = nl q := by rw [List.length_take]; have := nl_le q; omega
      refine ⟨_, ?_, ⟨some ⟨g, 0, none⟩, c, q.take (nl q), by rw [hcut], by rw [hcut]; have := nl_le q; omega, hrd.take _, Lim_take hmq _, Nrm_take _, by rw [val_take_nl]; exact hv.out⟩, hkp⟩
      rw [← hcv.out]
      first | rfl | (congr 4; omega) | simp
end Go.Proofs.YtpdjpjkieafnbaaGreatDoor.Li
