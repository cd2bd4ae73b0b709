import Derived.Test.YtmknpgkpplfbkaaQ9
import Derived.Deep.Cut
set_option linter.unusedVariables false
set_option linter.unusedSimpArgs false
namespace Go.Proofs.Ytmknpgkpplfbkaa
open Go.RowKit Lb
/-- out = append(out, x). -/
theorem wpList_app32 {w0 wr : World} {ops : Array Oper} {rest : List Oper} {o : Oper} {a : Act} {Q : Exit → Act → World → Prop} (hgd : o.guard = none) (s x : Operand)
    (ho : o.op = .call { callee := .builtin .append, args := #[s, x], argTypes := #[35, 35] }) (l : List Nat) (v : Value) (hs : a.eval s = v) (Y : Int) (y : Nat) (hY : Y = (y : Int))
    (hx : a.eval x = .slice (some ⟨wr.heap.size, 0, none⟩) 1 1) (hown : Own w0.heap.size wr v l) (hk : Keep w0 wr) (hlen : l.length < 35184372088832)
    (hK : ∀ v' w1, Own w0.heap.size w1 v' (l ++ [y]) → Keep w0 w1 → wpList Try.prog ops Q rest (a.put o.dst v') w1) :
    wpList Try.prog ops Q (o :: rest) a (wr.alloc (.cells #[.int .u32 Y] 53)) := by
  obtain ⟨i0, hi, hz0, hz1, hz2⟩ := info_parts i62
  subst hY
  refine wpList_append_own _ hgd s x 35 ho w0.heap.size 53 i0 (.int .u32 0) 1 4 Try.underlying35 hi hz0 hz1 hz2 rfl (by decide) v _ _ hs (hown.alloc _) ⟨wr.heap.size, 0, none⟩ 1 1 [.int .u32 (y : Int)] hx rfl ?_ ?_ ?_ ?_ ?_ ?_
  · intro j u hj
    match j, hj with
    | 0, hj => simp at hj; subst hj; simp [Addr.add]
  · intro u hu; simp at hu; subst hu; rfl
  · simp only [maxLen]; omega
  · omega
  · have := hk.le; simp; omega
  · intro v' w1 h1 h2 _
    refine hK v' w1 ?_ ?_
    · unfold Own; simpa [U] using h1
    · refine Below.grown (hk.alloc _) h2 (by have := hk.le; simp; omega) ?_
      intro k hk'
      have := hown.lt k hk'
      exact this.1
end Go.Proofs.Ytmknpgkpplfbkaa
set_option linter.unusedVariables false
set_option linter.unusedSimpArgs false
namespace Go.Proofs.Ytmknpgkpplfbkaa
open Go.RowKit Lb
theorem Lim_snoc {l : List Nat} (h : Lim l) (x : Nat) (hx : x < 4294967296) : Lim (l ++ [x]) := by
  intro y hy
  simp at hy
  rcases hy with hy | hy
  · exact h y hy
  · omega
theorem val_snoc (q : List Nat) (y : Nat) : val (q ++ [y]) = val q + 4294967296 ^ q.length * y := by rw [val_append]; simp [val]
theorem snoc_step (q : List Nat) (A t x y S X : Nat) (hq : 4294967296 ^ q.length = X) (hv : val q + t * X = A) (hS : S = A + (x + y) * X) : val (q ++ [(t + x + y) % 4294967296]) + (t + x + y) / 4294967296 * (X * 4294967296) = S := by
  have h := Nat.div_add_mod' (t + x + y) 4294967296
  have h2 : ((t + x + y) / 4294967296 * 4294967296 + (t + x + y) % 4294967296) * X = (t + x + y) * X := by rw [h]
  rw [val_snoc, hq]
  grind
theorem upStep (A1 A2 A3 x P : Nat) : A3 * (A1 * P) + x * P * (A1 * A2) = (A3 + x * A2) * (A1 * P) := by grind
set_option maxRecDepth 100000 in
set_option maxHeartbeats 400000 in
theorem up_any (a : Option Addr) (ca n : Nat) (la : List Nat) (w : World) (h0 : 0 < la.length) (hla : la.length ≤ 35184372000000) (hn : n ≤ 1048576) (hra : Rd w a la) (hma : Lim la) :
    Calls Try.prog 17 #[.slice a la.length ca, .int .i64 (n : Nat)] w fun e w' => ∃ v, e = .returned v ∧ Nv w' v (val la * 2 ^ n) ∧ Keep w w' := by
  obtain ⟨W, hW⟩ : ∃ W, n / 32 = W := ⟨_, rfl⟩
  obtain ⟨p, hp⟩ : ∃ p, n % 32 = p := ⟨_, rfl⟩
  have hWi : (n : Int) / 32 = (W : Int) := by omega
  have hpi : (n : Int) % 32 = (p : Int) := by omega
  have hp32 : p < 32 := by omega
  have hWb : W ≤ 32768 := by omega
  have hWb2 : W ≤ 70368744177664 := by omega
  have hrp : n = 32 * W + p := by omega
  have hpow : 2 ^ n = 4294967296 ^ W * 2 ^ p := by rw [hrp, Nat.pow_add, Nat.pow_mul]
  have HP : Hid (2 ^ n = 4294967296 ^ W * 2 ^ p) := hpow
  have hne : ((la.length : Int) == 0) = false := by rw [beq_eq_false_iff_ne]; omega
  clear hW hp hrp hpow
  go_enter Try.func17, Try.ntmps17
  go_wp2_with fail
  go_loopw [5, 6] (fun v i wr => ∃ (k : Nat), k ≤ W ∧ i = .int .i64 k ∧ Own w.heap.size wr v (List.replicate k 0) ∧ Keep w wr) (fun _ i _ => W - (intOf i).toNat)
  case atStart => exact ⟨0, by omega, rfl, World.ownsRow_nil _ _ _ _, Keep.refl _⟩
  case round =>
    obtain ⟨k, hkW, rfl, hown, hkp⟩ := hrel
    obtain ⟨vs, cq, rfl, hcq, hrq⟩ := hown.shape
    clear hrq
    by_cases hkL : k < W
    · have hlen : (List.replicate k 0).length < 35184372088832 := by simp; omega
      go_wp2_with (at_builtin; refine wpList_app32 rfl _ _ rfl (List.replicate k 0) _ rfl _ 0 ?_ rfl hown hkp hlen ?_; rotate_left; intro v' w1' hown' hk')
      go_roundw
      case rel => exact ⟨k + 1, by omega, by go_num, by rw [List.replicate_succ']; exact hown', hk'⟩
      case measure => simp [intOf]; omega
      all_goals simp
    · have hke : k = W := by omega
      subst hke
      go_wp2_with fail
      have hown0 := hown
      simp only [hpi]
      go_loopw [5, 8, 9] (fun v c i wr => ∃ (j t : Nat) (q : List Nat), j ≤ la.length ∧ i = .int .i64 j ∧ c = .int .u64 t ∧ t < 4294967296 ∧ Hid (t < 2 ^ p) ∧ Own w.heap.size wr v q ∧ Hid (q.length = k + j) ∧ Lim q ∧ Hid (val q + t * 4294967296 ^ (k + j) = val (la.take j) * 2 ^ n) ∧ Keep w wr) (fun _ _ i _ => la.length - (intOf i).toNat)
      case atStart => exact ⟨0, 0, _, by omega, rfl, rfl, by omega, Nat.pos_of_ne_zero (by simp), hown0, by show _ = _; simp, by intro x hx; simp at hx; omega, by show _ = _; rw [val_rep]; simp [val], hkp⟩
      case round =>
        obtain ⟨j, t, q, hkk, rfl, rfl, ht, htp, hown, hql, hmq, hv, hkp⟩ := hrel
        have hql' : q.length < 35184372088832 := by rw [hql.out]; omega
        obtain ⟨vs, cq, rfl, hcq, hrq⟩ := hown.shape
        clear hrq
        by_cases hkL : j < la.length
        · obtain ⟨b1, o1, rfl, hx1⟩ := (hra.keep hkp) j hkL
          obtain ⟨x, hx⟩ : ∃ x, la.getD j 0 = x := ⟨_, rfl⟩
          have hxl : x < 4294967296 := hx ▸ Lim_getD hma _
          rw [hx] at hx1
          have Hx : Hid (la.getD j 0 = x) := hx; clear hx
          obtain ⟨y, hy⟩ : ∃ y, x * 2 ^ p = y := ⟨_, rfl⟩
          have hp31 : 2 ^ p ≤ 2147483648 := Nat.le_trans (Nat.pow_le_pow_right (by omega) (show p ≤ 31 by omega)) (by decide)
          have hyl : y < 9223372036854775808 := by
            rw [← hy]
            exact Nat.lt_of_lt_of_le (Nat.mul_lt_mul_of_lt_of_le hxl hp31 (by omega)) (by decide)
          have hc2 : t + y < 2 ^ p * 4294967296 := by
            rw [← hy]
            have h1 : t < 2 ^ p := htp
            have h2 := Nat.mul_le_mul_right (2 ^ p) (show x ≤ 4294967295 by omega)
            omega
          have hcl : Hid ((t + y) / 4294967296 < 2 ^ p) := by
            show _ < _
            rw [Nat.div_lt_iff_lt_mul (by omega)]; exact hc2
          have hor : bits BinOp.or IntKind.u64 (t : Int) (IntKind.u64.wrap ((x : Int) * 2 ^ p)) = (t : Int) + (y : Int) := by
            have e1 : (x : Int) * 2 ^ p = (y : Int) := by rw [← hy]; simp
            rw [e1, IntKind.wrap_u64, show (y : Int) % 18446744073709551616 = (y : Int) by omega, u64_or_nat t y (by omega) (by omega), ← hy, Nat.or_comm, Nat.mul_comm x, ← Nat.two_pow_add_eq_or_of_lt htp]
            omega
          have HV : Hid (val (q ++ [(t + y) % 4294967296]) + ((t + y) / 4294967296) * 4294967296 ^ (k + (j + 1)) = val (la.take (j + 1)) * 2 ^ n) := by
            show _ = _
            have h1 := snoc_step q (val (la.take j) * 2 ^ n) t y 0 (val (la.take j) * 2 ^ n + (y + 0) * 4294967296 ^ q.length) (4294967296 ^ q.length) rfl (by rw [hql.out]; exact hv.out) rfl
            rw [Nat.add_zero, Nat.add_zero, hql.out] at h1
            rw [show k + (j + 1) = k + j + 1 from rfl, Nat.pow_succ, h1, val_take_succ, Hx.out, ← hy, HP.out, Nat.pow_add]
            exact upStep _ _ _ _ _
          have htl : (t + y) / 4294967296 < 4294967296 := Nat.lt_of_lt_of_le hcl (by omega)
          have Hql : Hid (∀ n, (q ++ [n]).length = k + (j + 1)) := by intro n; have := hql.out; simp; omega
          clear hy hc2 hp31
          go_wp2_with (at_builtin; refine wpList_app32 rfl _ _ rfl q _ rfl _ ((t + y) % 4294967296) ?_ rfl hown hkp hql' ?_; rotate_left; intro v' w1' hown' hk')
          go_roundw
          case rel => exact ⟨j + 1, (t + y) / 4294967296, _, by omega, by go_num, by simp, htl, hcl, hown', Hql.out _, Lim_snoc hmq _ (by omega), HV, hk'⟩
          case measure => simp [intOf]; omega
          all_goals simp
        · have hke : j = la.length := by omega
          subst hke
          rw [List.take_of_length_le (Nat.le_refl _)] at hv
          have HF : Hid (val (q ++ [t]) = val la * 2 ^ n) := by
            show _ = _
            rw [val_append, hql.out, ← hv.out]
            simp [val, Nat.mul_comm]
          have Hl : Hid (q.length = k + la.length) := hql
          have ht2 : (t : Int) % 4294967296 = (t : Int) := by omega
          go_wp2_with (at_builtin; refine wpList_app32 rfl _ _ rfl q _ rfl _ t ?_ rfl hown hkp hql' ?_; rotate_left; intro v' w1' hown' hk')
          obtain ⟨vs5, cq5, rfl, hcq5, hrq5⟩ := hown'.shape
          have hN := norm_any vs5 cq5 (q ++ [t]) w1' hcq5 (by have := Hl.out; simp; omega) hrq5
          refine hN.mono ?_
          rintro e w5 ⟨rfl, rfl⟩
          go_wp2_with fail
          go_ret
          have hcut : ((q ++ [t]).take (nl (q ++ [t]))).length = nl (q ++ [t]) := by rw [List.length_take]; have := nl_le (q ++ [t]); omega
          refine ⟨_, rfl, ⟨vs5, cq5, (q ++ [t]).take (nl (q ++ [t])), by rw [hcut]; rfl, ?_, ?_, Lim_take (Lim_snoc hmq _ ht) _, Nrm_take _, by rw [val_take_nl]; exact HF.out⟩, hk'⟩
          · have := nl_le (q ++ [t]); omega
          · exact hrq5.take _
          · rfl
end Go.Proofs.Ytmknpgkpplfbkaa
set_option linter.unusedVariables false
set_option linter.unusedSimpArgs false
namespace Go.Proofs.Ytmknpgkpplfbkaa
open Go.RowKit Lb
theorem odd_gcd {m : Nat} (h : m % 2 = 1) : ∀ k, Nat.gcd m (2 ^ k) = 1
  | 0 => by simp
  | k + 1 => by
    have h2 : Nat.Coprime m 2 := by
      unfold Nat.Coprime
      rw [Nat.gcd_comm, Nat.gcd_rec, h]
      rfl
    have := odd_gcd h k
    rw [Nat.pow_succ]
    exact Nat.Coprime.mul_right this h2
/-- How often two goes into a number. -/
def twos : Nat → Nat → Nat
  | 0, _ => 0
  | f + 1, m => if m % 2 = 0 then twos f (m / 2) + 1 else 0
theorem twos_odd : ∀ (f m : Nat), 0 < m → m < 2 ^ f → m = (m / 2 ^ twos f m) * 2 ^ twos f m ∧ (m / 2 ^ twos f m) % 2 = 1 ∧ twos f m < f
  | 0, m, h0, h => by simp at h; omega
  | f + 1, m, h0, h => by
    rw [twos]
    split
    · rename_i h2
      have hm : m / 2 < 2 ^ f := by rw [Nat.pow_succ] at h; omega
      obtain ⟨a, b, c⟩ := twos_odd f (m / 2) (by omega) hm
      have e : m / 2 ^ (twos f (m / 2) + 1) = m / 2 / 2 ^ twos f (m / 2) := by
        rw [Nat.pow_succ, Nat.mul_comm, ← Nat.div_div_eq_div_mul]
      rw [e]
      refine ⟨?_, b, by omega⟩
      rw [Nat.pow_succ, ← Nat.mul_assoc, ← a]
      omega
    · rename_i h2
      simp only [Nat.pow_zero, Nat.div_one, Nat.mul_one]
      exact ⟨trivial, by omega, by omega⟩
/-- Lowest terms of an odd number times a power of two over a power of two. -/
theorem low_pow {o t k : Nat} (ho : o % 2 = 1) : (o * 2 ^ t) / Nat.gcd (o * 2 ^ t) (2 ^ k) = o * 2 ^ (t - k) ∧ 2 ^ k / Nat.gcd (o * 2 ^ t) (2 ^ k) = 2 ^ (k - t) := by
  rcases Nat.le_total t k with h | h
  · have e : 2 ^ k = 2 ^ (k - t) * 2 ^ t := by rw [← Nat.pow_add]; congr 1; omega
    have g : Nat.gcd (o * 2 ^ t) (2 ^ k) = 2 ^ t := by
      rw [e, Nat.gcd_mul_right, odd_gcd ho, Nat.one_mul]
    have hp : 0 < 2 ^ t := Nat.two_pow_pos t
    rw [g]
    refine ⟨?_, ?_⟩
    · rw [Nat.mul_div_cancel _ hp, show t - k = 0 by omega, Nat.pow_zero, Nat.mul_one]
    · rw [e, Nat.mul_div_cancel _ hp]
  · have e : o * 2 ^ t = (o * 2 ^ (t - k)) * 2 ^ k := by rw [Nat.mul_assoc, ← Nat.pow_add]; congr 2; omega
    have hp : 0 < 2 ^ k := Nat.two_pow_pos k
    have g : Nat.gcd (o * 2 ^ t) (2 ^ k) = 2 ^ k := by
      rw [e]
      exact Nat.gcd_eq_right (Nat.dvd_mul_left _ _)
    rw [g]
    refine ⟨?_, ?_⟩
    · rw [e, Nat.mul_div_cancel _ hp]
    · rw [Nat.div_self hp, show k - t = 0 by omega]
theorem lowest (M : Nat) (E : Int) (h0 : 0 < M) (hM : M < 2 ^ 53) :
    RN (M * 2 ^ E.toNat) (2 ^ (-E).toNat) = M / 2 ^ twos 53 M * 2 ^ (E + twos 53 M).toNat ∧ RD (M * 2 ^ E.toNat) (2 ^ (-E).toNat) = 2 ^ (-(E + twos 53 M)).toNat := by
  obtain ⟨e1, e2, e3⟩ := twos_odd 53 M h0 hM
  generalize hT : twos 53 M = t at *
  generalize hO : M / 2 ^ t = o at *
  have hd : (2 : Nat) ^ (-E).toNat ≠ 0 := Nat.pos_iff_ne_zero.1 (Nat.two_pow_pos _)
  unfold RN RD
  rw [if_neg hd, if_neg hd]
  have h := low_pow (t := t + E.toNat) (k := (-E).toNat) e2
  have e4 : M * 2 ^ E.toNat = o * 2 ^ (t + E.toNat) := by rw [e1, Nat.mul_assoc, ← Nat.pow_add]
  rw [e4]
  rw [show (E + t).toNat = t + E.toNat - (-E).toNat by omega, show (-(E + t)).toNat = (-E).toNat - (t + E.toNat) by omega]
  exact h
end Go.Proofs.Ytmknpgkpplfbkaa
set_option linter.unusedVariables false
set_option linter.unusedSimpArgs false
namespace Go.Proofs.Ytmknpgkpplfbkaa
open Go.RowKit Lb
theorem one_nv (w : World) (w' : World) (k : Keep (w.alloc (.cells #[.int .u32 1] 53)) w') : Nv w' (.slice (some ⟨w.heap.size, 0, none⟩) 1 1) 1 := by
  have hrow : Row (w.alloc (.cells #[.int .u32 1] 53)) w.heap.size [1] := by
    unfold Row; rw [heap_alloc_new]; simp [U]
  exact ⟨_, 1, [1], rfl, by simp, (hrow.rd 0 1 (by simp)).keep k, by intro x hx; simp at hx; omega, by simp [Nrm], by simp [val]⟩
theorem twos_step {f m : Nat} (h : m % 2 = 0) : twos (f + 1) m = twos f (m / 2) + 1 := by rw [twos, if_pos h]
set_option maxRecDepth 100000 in
set_option maxHeartbeats 400000 in
theorem Ratio_zero (a b c : Bool) (E : Int) (w : World) :
    Calls Try.prog 9 #[.agg #[.bool a, .bool b, .bool c, .int .u64 0, .int .i64 E]] w fun e w' => ∃ v, e = .returned (.tuple #[.slice none 0 0, v]) ∧ Nv w' v 1 ∧ Keep w w' := by
  go_enter Try.func9, Try.ntmps9
  go_wp2_with fail
  go_ret2
  exact ⟨_, rfl, by simpa using one_nv (w.alloc (.cells #[.bool a, .bool b, .bool c, .int .u64 0, .int .i64 E] 26)) _ (Keep.refl _), ((Keep.refl w).alloc _).alloc _⟩
set_option maxRecDepth 100000 in
set_option maxHeartbeats 400000 in
theorem Ratio_some (a b c : Bool) (M : Nat) (E : Int) (w : World) (h0 : 0 < M) (hM : M < 9007199254740992) (hE : -1074 ≤ E ∧ E ≤ 1000) :
    Calls Try.prog 9 #[.agg #[.bool a, .bool b, .bool c, .int .u64 (M : Nat), .int .i64 E]] w fun e w' => ∃ v1 v2, e = .returned (.tuple #[v1, v2]) ∧ Nv w' v1 (RN (M * 2 ^ E.toNat) (2 ^ (-E).toNat)) ∧ Nv w' v2 (RD (M * 2 ^ E.toNat) (2 ^ (-E).toNat)) ∧ Keep w w' := by
  have hlow := lowest M E h0 (by omega)
  obtain ⟨e1, e2, e3⟩ := twos_odd 53 M h0 (by omega)
  rw [hlow.1, hlow.2]
  clear hlow
  replace e1 : Hid _ := e1
  replace e2 : Hid _ := e2
  obtain ⟨T, hT⟩ : ∃ T, twos 53 M = T := ⟨_, rfl⟩
  obtain ⟨O, hO⟩ : ∃ O, M / 2 ^ T = O := ⟨_, rfl⟩
  rw [hT] at e1 e2 e3 ⊢
  rw [hO] at e1 e2 ⊢
  have hne : ((M : Int) == 0) = false := by rw [beq_eq_false_iff_ne]; omega
  go_enter Try.func9, Try.ntmps9
  go_wp2_with fail
  go_loopw [4, 5] (fun m e wr => ∃ (n k : Nat), m = .int .u64 n ∧ e = .int .i64 (E + k) ∧ 0 < n ∧ n ≤ M ∧ Hid (k + (twos (53 - k) n) = T) ∧ k ≤ 53 ∧ Hid (n < 2 ^ (53 - k)) ∧ Hid (n * 2 ^ k = M) ∧ Keep w wr) (fun m _ _ => (intOf m).toNat)
  case atStart => exact ⟨M, 0, rfl, by simp, h0, by omega, by show _ = _; rw [← hT]; simp, by omega, by show _ < _; omega, by show _ = _; simp, (Keep.refl w).alloc _⟩
  case round =>
    obtain ⟨n, k, rfl, rfl, hn0, hnM, hk, hk53, hnl, hv, hkp⟩ := hrel
    by_cases h2 : n % 2 = 0
    · have g2 : ((n : Int) % 2 == 0) = true := by rw [beq_iff_eq]; omega
      have hk54 : k < 53 := by
        rcases Nat.lt_or_ge k 53 with h | h
        · exact h
        · have h' := hnl.out; rw [show 53 - k = 0 by omega] at h'; omega
      have hw : wrap64 (E + k + 1) = E + (k : Int) + 1 := IntWalk.wrap64_in _ (by omega)
      have hs := twos_step (f := 53 - (k + 1)) h2
      rw [show 53 - (k + 1) + 1 = 53 - k by omega] at hs
      have HS : Hid (k + 1 + twos (53 - (k + 1)) (n / 2) = T) := by show _ = _; have := hk.out; omega
      have HV : Hid (n / 2 * 2 ^ (k + 1) = M) := by
        show _ = _
        rw [← hv.out, Nat.pow_succ, Nat.mul_comm _ 2, ← Nat.mul_assoc]
        congr 1; omega
      have HL : Hid (n / 2 < 2 ^ (53 - (k + 1))) := by
        show _ < _
        have h' := hnl.out
        rw [show 53 - k = 53 - (k + 1) + 1 by omega, Nat.pow_succ] at h'
        omega
      clear hs hk hnl
      go_wp2_with fail
      go_roundw
      case rel => exact ⟨n / 2, k + 1, by go_num, by go_num, by omega, by omega, HS, by omega, HL, HV, hkp⟩
      case measure => simp [intOf]; omega
    · have g2 : ((n : Int) % 2 == 0) = false := by rw [beq_eq_false_iff_ne]; omega
      have hkT : k = T := by
        have h' := hk.out
        have : twos (53 - k) n = 0 := by
          rcases hf : 53 - k with _ | f
          · rfl
          · rw [twos, if_neg h2]
        omega
      subst hkT
      have hnO : n = O := by
        rw [← hO, ← hv.out, Nat.mul_div_cancel _ (Nat.two_pow_pos k)]
      subst hnO
      have hF := fun wx => from_any n wx (by omega)
      by_cases hs : 0 ≤ E + (k : Int)
      · have hd : (-(E + (k : Int))).toNat = 0 := by omega
        obtain ⟨s, hs1⟩ : ∃ s : Nat, E + (k : Int) = s := ⟨(E + k).toNat, by omega⟩
        have hs2 : s ≤ 1048576 := by omega
        have hst : (E + (k : Int)).toNat = s := by omega
        replace hs1 : Hid _ := hs1
        replace hd : Hid _ := hd
        replace hst : Hid _ := hst
        go_wp2_with fail
        refine (hF _).mono ?_
        rintro e w2 ⟨v2, l2, rfl, g2, m2, o2, e2', k2⟩
        obtain ⟨a2, c2, rfl, q1, q2⟩ := g2.shape
        have hU := up_any a2 c2 s l2 w2 (by rcases l2 with _ | ⟨x, l⟩ <;> simp [val] at e2' ⊢; omega) (by have := len_of o2 (k := 2) (by omega); omega) hs2 q2 m2
        rw [← hs1.out] at hU
        go_wp2_with fail
        refine hU.mono ?_
        rintro e w3 ⟨v3, rfl, n3, k3⟩
        go_wp2_with fail
        go_ret2
        refine ⟨_, _, rfl, ?_, ?_, ?_⟩
        · rw [hst.out, ← e2']
          exact n3.keep ((Keep.refl _).alloc _)
        · rw [hd.out]
          exact one_nv _ _ (Keep.refl _)
        · exact ((hkp.trans k2).trans k3).trans ((Keep.refl _).alloc _)
      · obtain ⟨s, hs1⟩ : ∃ s : Nat, -(E + (k : Int)) = s := ⟨(-(E + k)).toNat, by omega⟩
        have hd : (E + (k : Int)).toNat = 0 := by omega
        have hs2 : s ≤ 1048576 := by omega
        have hw : wrap64 (-(E + (k : Int))) = -(E + (k : Int)) := IntWalk.wrap64_in _ (by omega)
        replace hs1 : Hid _ := hs1
        replace hd : Hid _ := hd
        go_wp2_with fail
        refine (hF _).mono ?_
        rintro e w2 ⟨v2, l2, rfl, g2, m2, o2, e2', k2⟩
        have hU := up_any (some ⟨w2.heap.size, 0, none⟩) 1 s [1] (w2.alloc (Obj.cells #[Value.int IntKind.u32 1] 53)) (by simp) (by simp) hs2 (by
          obtain ⟨a1, c1, l1, z1, z2, z3, z4, z5, z6⟩ := one_nv w2 _ (Keep.refl _)
          have hrow : Row (w2.alloc (.cells #[.int .u32 1] 53)) w2.heap.size [1] := by
            unfold Row; rw [heap_alloc_new]; simp [U]
          exact hrow.rd 0 1 (by simp)) (by intro x hx; simp at hx; omega)
        rw [← hs1.out] at hU
        go_wp2_with fail
        refine hU.mono ?_
        rintro e w3 ⟨v3, rfl, n3, k3⟩
        go_wp2_with fail
        go_ret2
        refine ⟨_, _, rfl, ?_, ?_, ?_⟩
        · rw [hd.out, Nat.pow_zero, Nat.mul_one]
          obtain ⟨a2, c2, rfl, q1, q2⟩ := g2.shape
          exact ⟨a2, c2, l2, rfl, q1, q2.keep (((Keep.refl _).alloc _).trans k3), m2, o2, e2'⟩
        · have h1 : (-(E + (k : Int))).toNat = s := by have := hs1.out; omega
          rw [h1]
          have h2 : val [1] * 2 ^ s = 2 ^ s := by simp [val]
          rw [h2] at n3
          exact n3
        · exact (hkp.trans k2).trans (((Keep.refl _).alloc _).trans k3)
end Go.Proofs.Ytmknpgkpplfbkaa
set_option linter.unusedVariables false
set_option linter.unusedSimpArgs false
namespace Go.Proofs.Ytmknpgkpplfbkaa
open Go.RowKit Lb
theorem uSgn (b : Nat) : ((b : Int) / 9223372036854775808 == 1) = decide (b / 9223372036854775808 = 1) := by
  rw [Bool.eq_iff_iff]
  simp only [beq_iff_eq, decide_eq_true_eq]
  omega
theorem pNeg_top (b : Nat) (hb : b < 18446744073709551616) : ((b : Int) / 9223372036854775808 == 1) = pNeg b := by
  rw [uSgn, Bool.eq_iff_iff]
  unfold pNeg
  simp only [decide_eq_true_eq]
  omega
set_option maxRecDepth 100000 in
set_option maxHeartbeats 1000000 in
theorem law_none (b : Nat) (hb : b < 18446744073709551616) (hf : pField b = 2047) (w : World) :
    Calls Try.prog 3 #[.int .u64 (b : Nat)] w fun e w' => e = .returned (.bool true) ∧ Keep w w' := by
  have h4 := fun wx => f64from b wx
  have h6 := Wide_any
  have h5 := fun wx => Of_any b hb wx
  have h7 := fun wx => Parts_any b hb wx
  have h8 := fun wx => Quotient_none b hb hf wx
  have hN := pNeg_top b hb
  have HV : Hid (ofV b = .agg #[.bool (pNeg b), .bool (decide (pKind b = 3)), .bool (decide (pKind b = 4)), .int .u64 (pM b : Nat), .int .i64 (if pField b = 2047 then 0 else if 0 < pField b then -1074 + (pField b : Int) - 1 else -1074)]) := rfl
  have HK : pKind b = if pKept b = 0 then 3 else 4 := by unfold pKind; rw [if_pos hf]
  have HE : pE b = 0 := by unfold pE; rw [if_pos hf]
  rw [HE] at h7
  have hM := pM_lt b
  have hv := HV.out
  rw [if_pos hf] at hv
  clear HV HE hf
  have hk : pKind b = 3 ∨ pKind b = 4 := by rw [HK]; split <;> simp
  clear HK
  generalize pM b = M at *
  generalize pNeg b = ng at *
  generalize pKind b = Kd at *
  rw [hv] at h5
  clear hv
  rcases hk with rfl | rfl
  all_goals
    simp only [decide_true, show decide (3 = 4) = false from rfl, show decide (4 = 3) = false from rfl] at h5
    go_enter Try.func3, Try.ntmps3
    go_wp2_with (first | (go_at_call 6; refine (h6 _).mono ?_; rintro e w2 ⟨rfl, k2⟩) | (go_at_call 5; refine (h5 _).mono ?_; rintro e w3 ⟨rfl, k3⟩))
    refine (h7 _).mono ?_
    rintro e w4 ⟨rfl, k4⟩
    have t4 := (k4.block w3.heap.size (by simp)).trans (heap_alloc_new w3 _)
    have c0 := cell_of_row _ _ 0 _ 26 (0, 0) t4
    have c1 := cell_of_row _ _ 1 _ 26 (0, 0) t4
    have c2 := cell_of_row _ _ 2 _ 26 (0, 0) t4
    have c3 := cell_of_row _ _ 3 _ 26 (0, 0) t4
    have c4 := cell_of_row _ _ 4 _ 26 (0, 0) t4
    have f4 := frozen_of_row _ _ 4 _ 26 t4
    simp only [List.getElem?_toArray, List.getElem?_cons_zero, List.getElem?_cons_succ] at c0 c1 c2 c3 c4
    go_wp2_with fail
    refine (h8 _).mono ?_
    rintro e w5 ⟨rfl, k5⟩
    have hz : w.heap.size ≤ w3.heap.size := (k2.trans k3).le
    have hz4 : w3.heap.size < w4.heap.size := (Array.getElem?_eq_some_iff.1 t4).1
    have t5 := (k5.block w3.heap.size (by simpa using hz4)).trans (heap_setCell_same w4 w3.heap.size 4 _ 26 (.int .i64 0) t4)
    have hz5 : w3.heap.size < w5.heap.size := (Array.getElem?_eq_some_iff.1 t5).1
    clear c0 c1 c2 c3 c4
    have c1 := cell_of_row _ _ 1 _ 26 (0, 0) t5
    have c2 := cell_of_row _ _ 2 _ 26 (0, 0) t5
    simp only [List.setIfInBounds_toArray, List.set_cons_succ, List.set_cons_zero, List.getElem?_toArray, List.getElem?_cons_zero, List.getElem?_cons_succ] at c1 c2
    go_wp2_with fail
    go_ret
    exact ⟨rfl, ((((((k2.trans k3).alloc _).trans k4).setCell (p := ⟨w3.heap.size, 4, none⟩) hz _).trans k5).alloc _)⟩
end Go.Proofs.Ytmknpgkpplfbkaa
set_option linter.unusedVariables false
set_option linter.unusedSimpArgs false
namespace Go.Proofs.Ytmknpgkpplfbkaa
open Go.RowKit Lb
theorem len_any {l : List Nat} (hn : Nrm l) {n m : Nat} (h : val l = n) (hb : n < 4294967296 ^ m) (hm : m ≤ 70) : l.length ≤ 70368744177664 := by
  have := len_of hn (k := m) (by rw [h]; exact hb)
  omega
theorem rn_le (M : Nat) (E : Int) (hM : M < 9007199254740992) (hE : -1074 ≤ E ∧ E ≤ 1000) (m : Nat) (hm : 1200 ≤ 32 * m) : RN (M * 2 ^ E.toNat) (2 ^ (-E).toNat) < 4294967296 ^ m ∧ RD (M * 2 ^ E.toNat) (2 ^ (-E).toNat) < 4294967296 ^ m := by
  have h1 : M * 2 ^ E.toNat < 4294967296 ^ m := by
    have h3 : M * 2 ^ E.toNat < 2 ^ 53 * 2 ^ E.toNat := Nat.mul_lt_mul_of_pos_right (by omega) (Nat.pow_pos (by omega))
    rw [← Nat.pow_add] at h3
    rw [word_pow]
    exact Nat.lt_of_lt_of_le h3 (Nat.pow_le_pow_right (by omega) (by omega))
  have h2 : 2 ^ (-E).toNat < 4294967296 ^ m := by
    rw [word_pow]
    exact Nat.pow_lt_pow_right (by omega) (by omega)
  unfold RN RD
  refine ⟨?_, ?_⟩
  · split
    · exact Nat.pow_pos (by omega)
    · exact Nat.lt_of_le_of_lt (Nat.div_le_self _ _) h1
  · split
    · exact Nat.pow_pos (by omega)
    · exact Nat.lt_of_le_of_lt (Nat.div_le_self _ _) h2
set_option maxRecDepth 100000 in
set_option maxHeartbeats 1000000 in
theorem law_pos (b : Nat) (hb : b < 18446744073709551616) (hf : pField b ≠ 2047) (h0 : 0 < pM b) (w : World) :
    Calls Try.prog 3 #[.int .u64 (b : Nat)] w fun e w' => e = .returned (.bool true) ∧ Keep w w' := by
  have h4 := fun wx => f64from b wx
  have h6 := Wide_any
  have h5 := fun wx => Of_any b hb wx
  have h7 := fun wx => Parts_any b hb wx
  have h8 := fun wx => Quotient_some b hb hf wx
  have hN := pNeg_top b hb
  have HV : Hid (ofV b = .agg #[.bool (pNeg b), .bool (decide (pKind b = 3)), .bool (decide (pKind b = 4)), .int .u64 (pM b : Nat), .int .i64 (if pField b = 2047 then 0 else if 0 < pField b then -1074 + (pField b : Int) - 1 else -1074)]) := rfl
  have hlt : pField b < 2048 := Nat.mod_lt _ (by omega)
  have hkl : pKept b < 4503599627370496 := Nat.mod_lt _ (by omega)
  have hE' : (if pField b = 2047 then 0 else if 0 < pField b then -1074 + (pField b : Int) - 1 else -1074) = pE b := by
    unfold pE pM at *
    rw [if_neg hf, if_neg hf]
    by_cases g : 0 < pField b
    · rw [if_pos g, if_pos g]
    · rw [if_neg g, if_neg g]
      rw [if_neg (by omega)] at h0
      rw [if_pos h0]
  have hk : pKind b = if pM b < 4503599627370496 then 1 else 2 := by
    unfold pKind pM at *
    rw [if_neg hf]
    by_cases g : 0 < pField b
    · rw [if_pos g, if_pos (show 0 < pField b ∧ pField b < 2047 by omega), if_neg (by omega)]
    · rw [if_neg g]
      rw [if_neg (show ¬ (0 < pField b ∧ pField b < 2047) by omega)] at h0 ⊢
      rw [if_pos h0, if_pos hkl]
  have hE : -1074 ≤ pE b ∧ pE b ≤ 1000 := by
    unfold pE
    rw [if_neg hf]
    split
    · omega
    · split <;> omega
  have hM := pM_lt b
  have hv := HV.out
  rw [hE'] at hv
  clear HV hE' hf hlt hkl
  obtain ⟨m, hm⟩ : ∃ m : Nat, m = 70 := ⟨_, rfl⟩
  have hB := rn_le (pM b) (pE b) hM hE m (by omega)
  have hm70 : m ≤ 70 := by omega
  clear hm
  have hk3 : decide (pKind b = 3) = false := by rw [hk]; split <;> rfl
  have hk4 : decide (pKind b = 4) = false := by rw [hk]; split <;> rfl
  rw [hk3, hk4] at hv
  have h9 := fun (a' b' c' : Bool) wx => Ratio_some a' b' c' (pM b) (pE b) wx h0 hM hE
  have hrs : RS (pNeg b) (pM b * 2 ^ (pE b).toNat) (2 ^ (-(pE b)).toNat) = pNeg b := by
    unfold RS
    rw [if_neg]
    rintro (h | h)
    · exact absurd h (Nat.pos_iff_ne_zero.1 (Nat.two_pow_pos _))
    · have := Nat.mul_pos h0 (Nat.two_pow_pos (pE b).toNat)
      omega
  have hre : RE (2 ^ (-(pE b)).toNat) = 0 := by
    unfold RE
    rw [if_neg (Nat.pos_iff_ne_zero.1 (Nat.two_pow_pos _))]
  unfold RatF at h8
  rw [hrs, hre] at h8
  generalize RN (pM b * 2 ^ (pE b).toNat) (2 ^ (-(pE b)).toNat) = A at *
  generalize RD (pM b * 2 ^ (pE b).toNat) (2 ^ (-(pE b)).toNat) = B at *
  clear hrs hre hk3 hk4
  generalize pM b = M at *
  generalize pE b = E at *
  generalize pNeg b = ng at *
  generalize pKind b = Kd at *
  rw [hv] at h5
  clear hv
  have hne : ((M : Int) == 0) = false := by rw [beq_eq_false_iff_ne]; omega
  have hgt : (0 : Int) < (M : Int) := by omega
  replace hB : Hid _ := hB
  have hcs : (decide ((M : Int) < 4503599627370496) = true ∧ Kd = 1) ∨ (decide ((M : Int) < 4503599627370496) = false ∧ Kd = 2) := by
    by_cases hs : M < 4503599627370496
    · rw [if_pos hs] at hk
      exact .inl ⟨decide_eq_true (by omega), hk⟩
    · rw [if_neg hs] at hk
      exact .inr ⟨decide_eq_false (by omega), hk⟩
  clear hk hM
  rcases hcs with ⟨hd, rfl⟩ | ⟨hd, rfl⟩
  all_goals
    go_enter Try.func3, Try.ntmps3
    go_wp2_with (first | (go_at_call 6; refine (h6 _).mono ?_; rintro e w2 ⟨rfl, k2⟩) | (go_at_call 5; refine (h5 _).mono ?_; rintro e w3 ⟨rfl, k3⟩))
    refine (h7 _).mono ?_
    rintro e w4 ⟨rfl, k4⟩
    have t4 := (k4.block w3.heap.size (by simp)).trans (heap_alloc_new w3 _)
    have c0 := cell_of_row _ _ 0 _ 26 (0, 0) t4
    have c1 := cell_of_row _ _ 1 _ 26 (0, 0) t4
    have c2 := cell_of_row _ _ 2 _ 26 (0, 0) t4
    have c3 := cell_of_row _ _ 3 _ 26 (0, 0) t4
    have c4 := cell_of_row _ _ 4 _ 26 (0, 0) t4
    simp only [List.getElem?_toArray, List.getElem?_cons_zero, List.getElem?_cons_succ] at c0 c1 c2 c3 c4
    go_wp2_with fail
    refine (h8 _).mono ?_
    rintro e w5 ⟨an, cn, ln, ad, cd, ld, rfl, z1, z2, z3, z4, z5, z6, z7, z8, z9, z10, k5⟩
    have hz : w.heap.size ≤ w3.heap.size := (k2.trans k3).le
    have t5 := (k5.block w3.heap.size (Array.getElem?_eq_some_iff.1 t4).1).trans t4
    have hz5 : w3.heap.size < w5.heap.size := (Array.getElem?_eq_some_iff.1 t5).1
    clear c0 c1 c2 c3 c4
    have c0 := cell_of_row _ _ 0 _ 26 (0, 0) t5
    have c1 := cell_of_row _ _ 1 _ 26 (0, 0) t5
    have c2 := cell_of_row _ _ 2 _ 26 (0, 0) t5
    have c3 := cell_of_row _ _ 3 _ 26 (0, 0) t5
    have c4 := cell_of_row _ _ 4 _ 26 (0, 0) t5
    simp only [List.getElem?_toArray, List.getElem?_cons_zero, List.getElem?_cons_succ] at c0 c1 c2 c3 c4
    go_wp2_with fail
    refine (h9 _ _ _ _).mono ?_
    rintro e w6 ⟨v1, v2, rfl, n1, n2, k6⟩
    obtain ⟨a1, d1, l1, rfl, x1, x2, x3, x4, x5⟩ := n1
    obtain ⟨a2, d2, l2, rfl, y1, y2, y3, y4, y5⟩ := n2
    obtain rfl := val_inj z5 x3 z7 x4 (z9.trans x5.symm)
    obtain rfl := val_inj z6 y3 z8 y4 (z10.trans y5.symm)
    have hl1 := len_any z7 z9 hB.out.1 hm70
    have hl2 := len_any z8 z10 hB.out.2 hm70
    have k56 := ((Keep.refl w5).alloc (Obj.cells #[Value.bool ng, Value.slice an ln.length cn, Value.slice ad ld.length cd] 37)).trans k6
    have t6 := (k56.block w3.heap.size hz5).trans t5
    have u6 := (k6.block w5.heap.size (by simp)).trans (heap_alloc_new w5 _)
    have hS1 := same_any an a1 cn d1 ln w6 hl1 (z3.keep k56) x2
    have hS2 := fun wx (kx : Keep w6 wx) => same_any ad a2 cd d2 ld wx hl2 ((z4.keep k56).keep kx) (y2.keep kx)
    clear c0 c1 c2 c3 c4 x1 x2 x3 x4 x5 y1 y2 y3 y4 y5 z1 z2 z3 z4 z5 z6 z7 z8 z9 z10 hl1 hl2
    have c0 := cell_of_row _ _ 0 _ 26 (0, 0) t6
    have c3 := cell_of_row _ _ 3 _ 26 (0, 0) t6
    have e0 := cell_of_row _ _ 0 _ 37 (0, 0) u6
    have e1 := cell_of_row _ _ 1 _ 37 (0, 0) u6
    have e2 := cell_of_row _ _ 2 _ 37 (0, 0) u6
    simp only [List.getElem?_toArray, List.getElem?_cons_zero, List.getElem?_cons_succ] at c0 c3 e0 e1 e2
    go_upto_region 21 with fail
    obtain ⟨g, hg⟩ : ∃ g, w3.heap.size = g := ⟨_, rfl⟩
    obtain ⟨g', hg'⟩ : ∃ g', w5.heap.size = g' := ⟨_, rfl⟩
    rw [hg] at c0 c3
    rw [hg'] at e0 e1 e2
    rw [hg, hg']
    clear t4 t5 t6 u6 k56
    cases ng
    all_goals
      go_wp2_with (first
        | (go_at_call_of 10 (Value.slice an ln.length cn); refine hS1.mono ?_; rintro e wA ⟨rfl, kA⟩; have s0 := Keep.cell kA c0; have s3 := Keep.cell kA c3; have v0 := Keep.cell kA e0; have v1 := Keep.cell kA e1; have v2 := Keep.cell kA e2)
        | (go_at_call_of 10 (Value.slice ad ld.length cd); refine (hS2 _ ?_).mono ?_; exact kA; rintro e wB ⟨rfl, kB⟩))
    all_goals
      go_ret
      exact ⟨rfl, ((((((((k2.trans k3).alloc _).trans k4).trans k5).alloc _).trans k6).trans kA).trans kB)⟩
end Go.Proofs.Ytmknpgkpplfbkaa
set_option linter.unusedVariables false
set_option linter.unusedSimpArgs false
namespace Go.Proofs.Ytmknpgkpplfbkaa
open Go.RowKit Lb
set_option maxRecDepth 100000 in
set_option maxHeartbeats 1000000 in
theorem law_zero (b : Nat) (hb : b < 18446744073709551616) (hf : pField b ≠ 2047) (h0 : pM b = 0) (w : World) :
    Calls Try.prog 3 #[.int .u64 (b : Nat)] w fun e w' => e = .returned (.bool true) ∧ Keep w w' := by
  have h4 := fun wx => f64from b wx
  have h6 := Wide_any
  have h5 := fun wx => Of_any b hb wx
  have h7 := fun wx => Parts_any b hb wx
  have h8 := fun wx => Quotient_some b hb hf wx
  have hN := pNeg_top b hb
  have h9 := Ratio_zero
  have hv : ofV b = .agg #[.bool (pNeg b), .bool (decide (pKind b = 3)), .bool (decide (pKind b = 4)), .int .u64 (pM b : Nat), .int .i64 (if pField b = 2047 then 0 else if 0 < pField b then -1074 + (pField b : Int) - 1 else -1074)] := rfl
  have hlt : pField b < 2048 := Nat.mod_lt _ (by omega)
  have g1 : ¬ 0 < pField b := by
    intro g
    unfold pM at h0
    rw [if_pos ⟨g, by omega⟩] at h0
    omega
  have g2 : ¬ 0 < pKept b := by
    unfold pM at h0
    rw [if_neg (by omega)] at h0
    omega
  have hE : pE b = 0 := by unfold pE; rw [if_neg hf, if_neg g1, if_neg g2]
  have hk : pKind b = 0 := by unfold pKind; rw [if_neg hf, if_neg g1, if_neg g2]
  rw [if_neg hf, if_neg g1, h0, hk] at hv
  rw [hv] at h5
  rw [h0, hE, hk] at h7
  unfold RatF at h8
  rw [h0, hE] at h8
  have e1 : RS (pNeg b) (0 * 2 ^ (0 : Int).toNat) (2 ^ (-(0 : Int)).toNat) = false := by simp [RS]
  have e2 : RE (2 ^ (-(0 : Int)).toNat) = 0 := by simp [RE]
  have e3 : RN (0 * 2 ^ (0 : Int).toNat) (2 ^ (-(0 : Int)).toNat) = 0 := by simp [RN]
  have e4 : RD (0 * 2 ^ (0 : Int).toNat) (2 ^ (-(0 : Int)).toNat) = 1 := by simp [RD]
  rw [e1, e2, e3, e4] at h8
  simp only [show decide (0 = 3) = false from rfl, show decide (0 = 4) = false from rfl] at h5
  clear e1 e2 e3 e4 hv hE hk g1 g2 hlt hf h0
  generalize pNeg b = ng at *
  go_enter Try.func3, Try.ntmps3
  go_wp2_with (first | (go_at_call 6; refine (h6 _).mono ?_; rintro e w2 ⟨rfl, k2⟩) | (go_at_call 5; refine (h5 _).mono ?_; rintro e w3 ⟨rfl, k3⟩))
  refine (h7 _).mono ?_
  rintro e w4 ⟨rfl, k4⟩
  have t4 := (k4.block w3.heap.size (by simp)).trans (heap_alloc_new w3 _)
  have c0 := cell_of_row _ _ 0 _ 26 (0, 0) t4
  have c1 := cell_of_row _ _ 1 _ 26 (0, 0) t4
  have c2 := cell_of_row _ _ 2 _ 26 (0, 0) t4
  have c3 := cell_of_row _ _ 3 _ 26 (0, 0) t4
  have c4 := cell_of_row _ _ 4 _ 26 (0, 0) t4
  have f4 := frozen_of_row _ _ 4 _ 26 t4
  simp only [List.getElem?_toArray, List.getElem?_cons_zero, List.getElem?_cons_succ] at c0 c1 c2 c3 c4
  go_wp2_with fail
  refine (h8 _).mono ?_
  rintro e w5 ⟨an, cn, ln, ad, cd, ld, rfl, z1, z2, z3, z4, z5, z6, z7, z8, z9, z10, k5⟩
  have hz : w.heap.size ≤ w3.heap.size := (k2.trans k3).le
  have hz4 : w3.heap.size < w4.heap.size := (Array.getElem?_eq_some_iff.1 t4).1
  have t5 := (k5.block w3.heap.size (by simpa using hz4)).trans (heap_setCell_same w4 w3.heap.size 4 _ 26 (.int .i64 0) t4)
  simp only [List.setIfInBounds_toArray, List.set_cons_succ, List.set_cons_zero] at t5
  have hz5 : w3.heap.size < w5.heap.size := (Array.getElem?_eq_some_iff.1 t5).1
  clear c0 c1 c2 c3 c4
  have c0 := cell_of_row _ _ 0 _ 26 (0, 0) t5
  have c1 := cell_of_row _ _ 1 _ 26 (0, 0) t5
  have c2 := cell_of_row _ _ 2 _ 26 (0, 0) t5
  have c3 := cell_of_row _ _ 3 _ 26 (0, 0) t5
  have c4 := cell_of_row _ _ 4 _ 26 (0, 0) t5
  simp only [List.getElem?_toArray, List.getElem?_cons_zero, List.getElem?_cons_succ] at c0 c1 c2 c3 c4
  go_wp2_with fail
  refine (h9 _ _ _ _ _).mono ?_
  rintro e w6 ⟨v2, rfl, n2, k6⟩
  obtain ⟨a2, d2, l2, rfl, y1, y2, y3, y4, y5⟩ := n2
  obtain rfl : ln = [] := val_inj z5 (by intro x hx; simp at hx) z7 (by simp [Nrm]) (z9.trans (by simp [val]))
  obtain rfl := val_inj z6 y3 z8 y4 (z10.trans y5.symm)
  have hl1 := len_any z7 z9 (m := 1) (by omega) (by omega)
  have hl2 := len_any z8 z10 (m := 1) (by omega) (by omega)
  simp only [List.length_nil] at *
  have k56 := ((Keep.refl w5).alloc (Obj.cells #[Value.bool false, Value.slice an 0 cn, Value.slice ad ld.length cd] 37)).trans k6
  have t6 := (k56.block w3.heap.size hz5).trans t5
  have u6 := (k6.block w5.heap.size (by simp)).trans (heap_alloc_new w5 _)
  have hS1 := same_any an none cn 0 [] w6 hl1 (z3.keep k56) (Rd.nil _ _)
  have hS2 := fun wx (kx : Keep w6 wx) => same_any ad a2 cd d2 ld wx hl2 ((z4.keep k56).keep kx) (y2.keep kx)
  clear c0 c1 c2 c3 c4 y1 y2 y3 y4 y5 z1 z2 z3 z4 z5 z6 z7 z8 z9 z10 hl1 hl2
  have c0 := cell_of_row _ _ 0 _ 26 (0, 0) t6
  have c3 := cell_of_row _ _ 3 _ 26 (0, 0) t6
  have e0 := cell_of_row _ _ 0 _ 37 (0, 0) u6
  have e1 := cell_of_row _ _ 1 _ 37 (0, 0) u6
  have e2 := cell_of_row _ _ 2 _ 37 (0, 0) u6
  simp only [List.getElem?_toArray, List.getElem?_cons_zero, List.getElem?_cons_succ] at c0 c3 e0 e1 e2
  go_upto_region 21 with fail
  obtain ⟨g, hg⟩ : ∃ g, w3.heap.size = g := ⟨_, rfl⟩
  obtain ⟨g', hg'⟩ : ∃ g', w5.heap.size = g' := ⟨_, rfl⟩
  rw [hg] at c0 c3
  rw [hg'] at e0 e1 e2
  rw [hg, hg']
  clear t4 t5 t6 u6 k56
  cases ng
  all_goals
    go_wp2_with (first
      | (go_at_call_of 10 (Value.slice an 0 cn); refine hS1.mono ?_; rintro e wA ⟨rfl, kA⟩; have s0 := Keep.cell kA c0; have s3 := Keep.cell kA c3; have v0 := Keep.cell kA e0; have v1 := Keep.cell kA e1; have v2 := Keep.cell kA e2)
      | (go_at_call_of 10 (Value.slice ad ld.length cd); refine (hS2 _ ?_).mono ?_; exact kA; rintro e wB ⟨rfl, kB⟩))
  all_goals
    go_ret
    exact ⟨rfl, (((((((((k2.trans k3).alloc _).trans k4).setCell (p := ⟨w3.heap.size, 4, none⟩) hz _).trans k5).alloc _).trans k6).trans kA).trans kB)⟩
theorem law_parts (b : Nat) (w : World) (hb : b < 18446744073709551616) :
    Calls Try.prog 3 #[.int .u64 (b : Nat)] w fun e w' => e = .returned (.bool true) ∧ Keep w w' := by
  by_cases hf : pField b = 2047
  · exact law_none b hb hf w
  · rcases Nat.eq_zero_or_pos (pM b) with h | h
    · exact law_zero b hb hf h w
    · exact law_pos b hb hf h w
end Go.Proofs.Ytmknpgkpplfbkaa
