import Derived.Test.YtpdjpjkieafnbaaGreatDoorProg
import Derived.Test.YtpdjpjkieafnbaaGreatDoorLK1
import Derived.Test.YtpdjpjkieafnbaaGreatDoorLE7
import Derived.Test.YtpdjpjkieafnbaaGreatDoorShelf
import Derived.WalkKit
import Derived.WalkSpells
import Derived.WalkLawsBesides
import Derived.Laws.CopyOwn
import Derived.Deep.Draws
import Derived.Deep.QuietTactic
import Derived.BigQuiet
import Derived.Laws.MathBits
import Derived.Laws.BytesArg
import Derived.Lib.OthersKept
import Derived.Deep.RegionWith
import Derived.WalkMore
import Derived.Deep.LoopGhost
import Derived.Laws.Externs
set_option linter.unusedVariables false
set_option linter.unusedSimpArgs false
namespace Go.Proofs.YtpdjpjkieafnbaaGreatDoor.Li
open Go.RowKit Lb
set_option maxRecDepth 100000 in
theorem binary64_any (w : World) : Calls Tryz.prog 44 #[] w fun e w' => e = .returned (.agg #[.int .i64 52, .int .i64 2047, .int .i64 (-1074)]) ∧ Keep w w' := by
  go_enter Tryz.func44, Tryz.ntmps44
  go_wp2_with fail
  refine bodyPost_ret (results_cell_row rfl _ _ w.heap.size 85 _ (0, 0) _ rfl (heap_alloc_new w _) Tryz.underlying85 rfl (by kernel_rfl)) rfl ?_
  exact ⟨rfl, (Keep.refl w).alloc _⟩
theorem signBit_any (w : World) : Calls Tryz.prog 72 #[.agg #[.int .i64 52, .int .i64 2047, .int .i64 (-1074)]] w fun e w' => e = .returned (.int .u64 9223372036854775808) ∧ Keep w w' := by
  go_enter Tryz.func72, Tryz.ntmps72
  go_wp2_with fail
  go_ret
  exact ⟨rfl, (Keep.refl w).alloc _⟩
theorem f64from (x : Nat) (w : World) : (callFunc 19 #[.int .u64 (x : Nat)]).run Tryz.prog w = .ok (.value (.float .f64 x)) w := by
  rw [run_callFunc_extern Tryz.func19 (by kernel_rfl) (by kernel_rfl) (by kernel_rfl) (e := Extern.MathFloatBits.float64frombits) (by kernel_rfl)]
  rfl
/-- A natural as a value, that can be read. -/
def Nv (w : World) (v : Value) (n : Nat) : Prop := ∃ a c l, v = .slice a l.length c ∧ l.length ≤ c ∧ Rd w a l ∧ Lim l ∧ Nrm l ∧ val l = n
theorem Nv.keep {w w' : World} {v : Value} {n : Nat} (h : Nv w v n) (k : Keep w w') : Nv w' v n := by
  obtain ⟨a, c, l, e, h1, h2, h3⟩ := h
  exact ⟨a, c, l, e, h1, h2.keep k, h3⟩
theorem len_of {l : List Nat} (hn : Nrm l) {k : Nat} (h : val l < 4294967296 ^ k) : l.length ≤ k := by
  by_cases e : l = []
  · subst e; simp
  · have h1 := val_ge hn e
    rcases Nat.lt_or_ge k l.length with h2 | h2
    · have h3 : 4294967296 ^ k ≤ 4294967296 ^ (l.length - 1) := Nat.pow_le_pow_right (by omega) (by omega)
      omega
    · exact h2
theorem word_pow (k : Nat) : (4294967296 : Nat) ^ k = 2 ^ (32 * k) := by rw [Nat.pow_mul]
set_option maxHeartbeats 400000 in
theorem norm_any (a : Option Addr) (c : Nat) (l : List Nat) (w : World) (hnc : l.length ≤ c) (hbig : l.length ≤ 9223372036854775807) (hr : Rd w a l) :
    Calls Tryz.prog 93 #[.slice a l.length c] w fun e w' => e = .returned (.slice a (nl l) c) ∧ w' = w := by
  go_enter Tryz.func93, Tryz.ntmps93
  go_wp2
  go_loop [3] (fun i => ∃ k : Nat, k ≤ l.length ∧ i = .int .i64 k ∧ ∀ j, k ≤ j → l.getD j 0 = 0) (fun i => (intOf i).toNat)
  case atStart => exact ⟨l.length, Nat.le_refl _, rfl, fun j hj => by simp [List.getD, List.getElem?_eq_none hj]⟩
  case round =>
    obtain ⟨k, hk, rfl, hz⟩ := hrel
    by_cases h0 : 0 < k
    · obtain ⟨b, o, rfl, hc⟩ := hr (k - 1) (by omega)
      obtain ⟨x, hx⟩ : ∃ x, l.getD (k - 1) 0 = x := ⟨_, rfl⟩
      rw [hx] at hc
      by_cases hx0 : x = 0
      · subst hx0
        have Hx : Hid (l.getD (k - 1) 0 = 0) := hx; clear hx
        go_wp2
        go_round
        case rel => exact ⟨k - 1, by omega, by go_num, fun j hj => by
          by_cases e : j = k - 1
          · subst e; exact Hx.out
          · exact hz j (by omega)⟩
        case measure => simp [intOf]; omega
      · have Hx : Hid (l.getD (k - 1) 0 = x) := hx; clear hx
        go_wp2
        go_ret
        refine ⟨?_, rfl⟩
        rw [nl_eq l k hz (fun _ => by rw [Hx.out]; exact hx0)]
        rfl
    · go_wp2
      go_ret
      refine ⟨?_, rfl⟩
      rw [nl_eq l k hz (by omega)]
      rfl
/-- out = append(out, x). -/
theorem wpList_app32 {w0 wr : World} {ops : Array Oper} {rest : List Oper} {o : Oper} {a : Act} {Q : Exit → Act → World → Prop} (hgd : o.guard = none) (s x : Operand)
    (ho : o.op = .call { callee := .builtin .append, args := #[s, x], argTypes := #[52, 52] }) (l : List Nat) (v : Value) (hs : a.eval s = v) (Y : Int) (y : Nat) (hY : Y = (y : Int))
    (hx : a.eval x = .slice (some ⟨wr.heap.size, 0, none⟩) 1 1) (hown : Own w0.heap.size wr v l) (hk : Keep w0 wr) (hlen : l.length < 35184372088832)
    (hK : ∀ v' w1, Own w0.heap.size w1 v' (l ++ [y]) → Keep w0 w1 → wpList Tryz.prog ops Q rest (a.put o.dst v') w1) :
    wpList Tryz.prog ops Q (o :: rest) a (wr.alloc (.cells #[.int .u32 Y] 40)) := by
  obtain ⟨i0, hi, hz0, hz1, hz2⟩ := info_parts i62
  subst hY
  refine wpList_append_own _ hgd s x 52 ho w0.heap.size 40 i0 (.int .u32 0) 1 4 Tryz.underlying52 hi hz0 hz1 hz2 rfl (by decide) v _ _ hs (hown.alloc _) ⟨wr.heap.size, 0, none⟩ 1 1 [.int .u32 (y : Int)] hx rfl ?_ ?_ ?_ ?_ ?_ ?_
  · intro j u hj
    match j, hj with
    | 0, hj => simp at hj; subst hj; simp [Addr.add]
  · intro u hu; simp at hu; subst hu; rfl
  · simp only [maxLen]; omega
  · omega
  · have := hk.le; simp; omega
  · intro v' w1 h1 h2 _
    refine hK v' w1 ?_ ?_
    · unfold Own; simpa [U] using h1
    · refine Below.grown (hk.alloc _) h2 (by have := hk.le; simp; omega) ?_
      intro k hk'
      have := hown.lt k hk'
      exact this.1
theorem snoc_step (q : List Nat) (A t x y S X : Nat) (hq : 4294967296 ^ q.length = X) (hv : val q + t * X = A) (hS : S = A + (x + y) * X) : val (q ++ [(t + x + y) % 4294967296]) + (t + x + y) / 4294967296 * (X * 4294967296) = S := by
  have h := Nat.div_add_mod' (t + x + y) 4294967296
  have h2 : ((t + x + y) / 4294967296 * 4294967296 + (t + x + y) % 4294967296) * X = (t + x + y) * X := by rw [h]
  rw [val_snoc, hq]
  grind
theorem upStep (A1 A2 A3 x P : Nat) : A3 * (A1 * P) + x * P * (A1 * A2) = (A3 + x * A2) * (A1 * P) := by grind
set_option maxRecDepth 100000 in
set_option maxHeartbeats 400000 in
theorem up_any (a : Option Addr) (ca n : Nat) (la : List Nat) (w : World) (h0 : 0 < la.length) (hla : n / 32 + la.length ≤ 35184372088800) (hn : n ≤ 1125899906842624000) (hra : Rd w a la) (hma : Lim la) :
    Calls Tryz.prog 51 #[.slice a la.length ca, .int .i64 (n : Nat)] w fun e w' => ∃ v, e = .returned v ∧ Nv w' v (val la * 2 ^ n) ∧ Keep w w' := by
  obtain ⟨W, hW⟩ : ∃ W, n / 32 = W := ⟨_, rfl⟩
  obtain ⟨p, hp⟩ : ∃ p, n % 32 = p := ⟨_, rfl⟩
  have hWi : (n : Int) / 32 = (W : Int) := by omega
  have hpi : (n : Int) % 32 = (p : Int) := by omega
  have hp32 : p < 32 := by omega
  rw [hW] at hla
  have hWb : W ≤ 35184372088800 := by omega
  have hWb2 : W ≤ 70368744177664 := by omega
  have hrp : n = 32 * W + p := by omega
  have hpow : 2 ^ n = 4294967296 ^ W * 2 ^ p := by rw [hrp, Nat.pow_add, Nat.pow_mul]
  have HP : Hid (2 ^ n = 4294967296 ^ W * 2 ^ p) := hpow
  have hne : ((la.length : Int) == 0) = false := by rw [beq_eq_false_iff_ne]; omega
  clear hW hp hrp hpow
  go_enter Tryz.func51, Tryz.ntmps51
  go_wp2_with fail
  go_loopw [5, 6] (fun v i wr => ∃ (k : Nat), k ≤ W ∧ i = .int .i64 k ∧ Own w.heap.size wr v (List.replicate k 0) ∧ Keep w wr) (fun _ i _ => W - (intOf i).toNat)
  case atStart => exact ⟨0, by omega, rfl, World.ownsRow_nil _ _ _ _, Keep.refl _⟩
  case round =>
    obtain ⟨k, hkW, rfl, hown, hkp⟩ := hrel
    obtain ⟨vs, cq, rfl, hcq, hrq⟩ := hown.shape
    clear hrq
    by_cases hkL : k < W
    · have hlen : (List.replicate k 0).length < 35184372088832 := by simp; omega
      go_wp2_with (at_builtin; refine wpList_app32 rfl _ _ rfl (List.replicate k 0) _ rfl _ 0 ?_ rfl hown hkp hlen ?_; rotate_left; intro v' w1' hown' hk')
      go_roundw
      case rel => exact ⟨k + 1, by omega, by go_num, by rw [List.replicate_succ']; exact hown', hk'⟩
      case measure => simp [intOf]; omega
      all_goals simp
    · have hke : k = W := by omega
      subst hke
      go_wp2_with fail
      have hown0 := hown
      simp only [hpi]
      go_loopw [5, 8, 9] (fun v c i wr => ∃ (j t : Nat) (q : List Nat), j ≤ la.length ∧ i = .int .i64 j ∧ c = .int .u64 t ∧ t < 4294967296 ∧ Hid (t < 2 ^ p) ∧ Own w.heap.size wr v q ∧ Hid (q.length = k + j) ∧ Lim q ∧ Hid (val q + t * 4294967296 ^ (k + j) = val (la.take j) * 2 ^ n) ∧ Keep w wr) (fun _ _ i _ => la.length - (intOf i).toNat)
      case atStart => exact ⟨0, 0, _, by omega, rfl, rfl, by omega, Nat.pos_of_ne_zero (by simp), hown0, by show _ = _; simp, by intro x hx; simp at hx; omega, by show _ = _; rw [val_rep]; simp [val], hkp⟩
      case round =>
        obtain ⟨j, t, q, hkk, rfl, rfl, ht, htp, hown, hql, hmq, hv, hkp⟩ := hrel
        have hql' : q.length < 35184372088832 := by rw [hql.out]; omega
        obtain ⟨vs, cq, rfl, hcq, hrq⟩ := hown.shape
        clear hrq
        by_cases hkL : j < la.length
        · obtain ⟨b1, o1, rfl, hx1⟩ := (hra.keep hkp) j hkL
          obtain ⟨x, hx⟩ : ∃ x, la.getD j 0 = x := ⟨_, rfl⟩
          have hxl : x < 4294967296 := hx ▸ Lim_getD hma _
          rw [hx] at hx1
          have Hx : Hid (la.getD j 0 = x) := hx; clear hx
          obtain ⟨y, hy⟩ : ∃ y, x * 2 ^ p = y := ⟨_, rfl⟩
          have hp31 : 2 ^ p ≤ 2147483648 := Nat.le_trans (Nat.pow_le_pow_right (by omega) (show p ≤ 31 by omega)) (by decide)
          have hyl : y < 9223372036854775808 := by
            rw [← hy]
            exact Nat.lt_of_lt_of_le (Nat.mul_lt_mul_of_lt_of_le hxl hp31 (by omega)) (by decide)
          have hc2 : t + y < 2 ^ p * 4294967296 := by
            rw [← hy]
            have h1 : t < 2 ^ p := htp
            have h2 := Nat.mul_le_mul_right (2 ^ p) (show x ≤ 4294967295 by omega)
            omega
          have hcl : Hid ((t + y) / 4294967296 < 2 ^ p) := by
            show _ < _
            rw [Nat.div_lt_iff_lt_mul (by omega)]; exact hc2
          have hor : bits BinOp.or IntKind.u64 (t : Int) (IntKind.u64.wrap ((x : Int) * 2 ^ p)) = (t : Int) + (y : Int) := by
            have e1 : (x : Int) * 2 ^ p = (y : Int) := by rw [← hy]; simp
            rw [e1, IntKind.wrap_u64, show (y : Int) % 18446744073709551616 = (y : Int) by omega, u64_or_nat t y (by omega) (by omega), ← hy, Nat.or_comm, Nat.mul_comm x, ← Nat.two_pow_add_eq_or_of_lt htp]
            omega
          have HV : Hid (val (q ++ [(t + y) % 4294967296]) + ((t + y) / 4294967296) * 4294967296 ^ (k + (j + 1)) = val (la.take (j + 1)) * 2 ^ n) := by
            show _ = _
            have h1 := snoc_step q (val (la.take j) * 2 ^ n) t y 0 (val (la.take j) * 2 ^ n + (y + 0) * 4294967296 ^ q.length) (4294967296 ^ q.length) rfl (by rw [hql.out]; exact hv.out) rfl
            rw [Nat.add_zero, Nat.add_zero, hql.out] at h1
            rw [show k + (j + 1) = k + j + 1 from rfl, Nat.pow_succ, h1, val_take_succ, Hx.out, ← hy, HP.out, Nat.pow_add]
            exact upStep _ _ _ _ _
          have htl : (t + y) / 4294967296 < 4294967296 := Nat.lt_of_lt_of_le hcl (by omega)
          have Hql : Hid (∀ n, (q ++ [n]).length = k + (j + 1)) := by intro n; have := hql.out; simp; omega
          clear hy hc2 hp31
          go_wp2_with (at_builtin; refine wpList_app32 rfl _ _ rfl q _ rfl _ ((t + y) % 4294967296) ?_ rfl hown hkp hql' ?_; rotate_left; intro v' w1' hown' hk')
          go_roundw
          case rel => exact ⟨j + 1, (t + y) / 4294967296, _, by omega, by go_num, by simp, htl, hcl, hown', Hql.out _, Lim_snoc hmq _ (by omega), HV, hk'⟩
          case measure => simp [intOf]; omega
          all_goals simp
        · have hke : j = la.length := by omega
          subst hke
          rw [List.take_of_length_le (Nat.le_refl _)] at hv
          have HF : Hid (val (q ++ [t]) = val la * 2 ^ n) := by
            show _ = _
            rw [val_append, hql.out, ← hv.out]
            simp [val, Nat.mul_comm]
          have Hl : Hid (q.length = k + la.length) := hql
          have ht2 : (t : Int) % 4294967296 = (t : Int) := by omega
          go_wp2_with (at_builtin; refine wpList_app32 rfl _ _ rfl q _ rfl _ t ?_ rfl hown hkp hql' ?_; rotate_left; intro v' w1' hown' hk')
          obtain ⟨vs5, cq5, rfl, hcq5, hrq5⟩ := hown'.shape
          have hN := norm_any vs5 cq5 (q ++ [t]) w1' hcq5 (by have := Hl.out; simp; omega) hrq5
          refine hN.mono ?_
          rintro e w5 ⟨rfl, rfl⟩
          go_wp2_with fail
          go_ret
          have hcut : ((q ++ [t]).take (nl (q ++ [t]))).length = nl (q ++ [t]) := by rw [List.length_take]; have := nl_le (q ++ [t]); omega
          refine ⟨_, rfl, ⟨vs5, cq5, (q ++ [t]).take (nl (q ++ [t])), by rw [hcut]; rfl, ?_, ?_, Lim_take (Lim_snoc hmq _ ht) _, Nrm_take _, by rw [val_take_nl]; exact HF.out⟩, hk'⟩
          · have := nl_le (q ++ [t]); omega
          · exact hrq5.take _
          · rfl
end Go.Proofs.YtpdjpjkieafnbaaGreatDoor.Li
set_option linter.unusedVariables false
set_option linter.unusedSimpArgs false
namespace Nr
/-- A quotient rounded to the nearest, of two that are as near to the even one. -/
def rup (x y : Nat) : Nat := if y < 2 * (x % y) ∨ 2 * (x % y) = y ∧ x / y % 2 = 1 then x / y + 1 else x / y
theorem div_ratio {X Y X' Y' : Nat} (hY : 0 < Y) (hY' : 0 < Y') (h : X * Y' = X' * Y) : X / Y = X' / Y' ∧ (X % Y) * Y' = (X' % Y') * Y := by
  have a := Nat.div_add_mod' X Y
  have b := Nat.mod_lt X hY
  have a' := Nat.div_add_mod' X' Y'
  have b' := Nat.mod_lt X' hY'
  have q : X / Y = X' / Y' := by
    have e1 : X / Y = X * Y' / (Y * Y') := (Nat.mul_div_mul_right _ _ hY').symm
    have e2 : X' / Y' = X' * Y / (Y' * Y) := (Nat.mul_div_mul_right _ _ hY).symm
    rw [e1, e2, h, Nat.mul_comm Y Y']
  refine ⟨q, ?_⟩
  have e1 : X * Y' = X / Y * Y * Y' + X % Y * Y' := by rw [← Nat.add_mul, a]
  have e2 : X' * Y = X' / Y' * Y' * Y + X' % Y' * Y := by rw [← Nat.add_mul, a']
  rw [h, e2, ← q, Nat.mul_assoc, Nat.mul_comm Y' Y, ← Nat.mul_assoc] at e1
  omega
theorem rup_ratio {X Y X' Y' : Nat} (hY : 0 < Y) (hY' : 0 < Y') (h : X * Y' = X' * Y) : rup X Y = rup X' Y' := by
  obtain ⟨q, r⟩ := div_ratio hY hY' h
  unfold rup
  rw [q]
  have r2 : 2 * (X % Y) * Y' = 2 * (X' % Y') * Y := by rw [Nat.mul_assoc, r, ← Nat.mul_assoc]
  have c1 : Y < 2 * (X % Y) ↔ Y' < 2 * (X' % Y') := by
    rw [← Nat.mul_lt_mul_right (a := Y') hY', r2, Nat.mul_comm Y Y', Nat.mul_lt_mul_right hY]
  have c2 : 2 * (X % Y) = Y ↔ 2 * (X' % Y') = Y' := by
    constructor
    · intro e
      rw [e, Nat.mul_comm Y Y'] at r2
      exact (Nat.eq_of_mul_eq_mul_right hY r2).symm
    · intro e
      rw [e, Nat.mul_comm Y' Y] at r2
      exact Nat.eq_of_mul_eq_mul_right hY' r2
  simp only [c1, c2]
theorem or_one (q : Nat) : q ||| 1 = q / 2 * 2 + 1 := by
  have h := Nat.two_pow_add_eq_or_of_lt (i := 1) (b := q % 2) (by omega) (q / 2)
  have e : 2 ^ 1 * (q / 2) + q % 2 = q := by omega
  rw [e] at h
  rcases Nat.mod_two_eq_zero_or_one q with g | g
  · have h1 := Nat.two_pow_add_eq_or_of_lt (i := 1) (b := 1) (by omega) (q / 2)
    have e1 : 2 ^ 1 * (q / 2) = q := by omega
    rw [e1] at h1
    omega
  · have h1 : q = 2 ^ 1 * (q / 2) ||| 1 := by rw [g] at h; exact h
    have h2 : q ||| 1 = q := by
      rw [h1, Nat.or_assoc, Nat.or_self]
    omega
theorem sticky {q b r p : Nat} (hp : 0 < p) (hr : r < b) : rup (if r = 0 then q else q ||| 1) (4 * p) = rup (q * b + r) (b * (4 * p)) := by
  have hb : 0 < b := by omega
  have h4 : 0 < 4 * p := by omega
  obtain ⟨k, l, hl, hq⟩ : ∃ k l, l < 4 * p ∧ q = 4 * p * k + l := ⟨q / (4 * p), q % (4 * p), Nat.mod_lt _ h4, (Nat.div_add_mod q (4 * p)).symm⟩
  have hlr : l * b + r < b * (4 * p) := by
    have := Nat.mul_le_mul_right b (show l + 1 ≤ 4 * p from hl)
    rw [Nat.add_mul, Nat.mul_comm (4 * p) b] at this
    omega
  have e1 : q * b + r = b * (4 * p) * k + (l * b + r) := by rw [hq, Nat.add_mul]; grind
  have d1 : (q * b + r) / (b * (4 * p)) = k := by
    rw [e1, Nat.mul_add_div (Nat.mul_pos hb h4), Nat.div_eq_of_lt hlr, Nat.add_zero]
  have m1 : (q * b + r) % (b * (4 * p)) = l * b + r := by
    rw [e1, Nat.mul_add_mod, Nat.mod_eq_of_lt hlr]
  have cmp1 : b * (4 * p) < 2 * (l * b + r) ↔ 2 * p < l ∨ (2 * p = l ∧ 0 < r) := by
    rw [show b * (4 * p) = 2 * ((2 * p) * b) by grind]
    rcases Nat.lt_trichotomy l (2 * p) with g | g | g
    · have := Nat.mul_le_mul_right b (show l + 1 ≤ 2 * p from g)
      rw [Nat.add_mul] at this
      omega
    · rw [g]; omega
    · have := Nat.mul_le_mul_right b (show 2 * p + 1 ≤ l from g)
      rw [Nat.add_mul] at this
      omega
  have cmp2 : 2 * (l * b + r) = b * (4 * p) ↔ l = 2 * p ∧ r = 0 := by
    rw [show b * (4 * p) = 2 * ((2 * p) * b) by grind]
    rcases Nat.lt_trichotomy l (2 * p) with g | g | g
    · have := Nat.mul_le_mul_right b (show l + 1 ≤ 2 * p from g)
      rw [Nat.add_mul] at this
      omega
    · rw [g]; omega
    · have := Nat.mul_le_mul_right b (show 2 * p + 1 ≤ l from g)
      rw [Nat.add_mul] at this
      omega
  have hrhs : rup (q * b + r) (b * (4 * p)) = if (2 * p < l ∨ (2 * p = l ∧ 0 < r)) ∨ (l = 2 * p ∧ r = 0) ∧ k % 2 = 1 then k + 1 else k := by
    unfold rup
    rw [d1, m1]
    simp only [cmp1, cmp2]
  rw [hrhs]
  by_cases h0 : r = 0
  · rw [if_pos h0]
    have d2 : q / (4 * p) = k := by rw [hq, Nat.mul_add_div h4, Nat.div_eq_of_lt hl, Nat.add_zero]
    have m2 : q % (4 * p) = l := by rw [hq, Nat.mul_add_mod, Nat.mod_eq_of_lt hl]
    unfold rup
    rw [d2, m2]
    congr 1
    apply propext
    omega
  · rw [if_neg h0, or_one]
    have e2 : q / 2 * 2 + 1 = 4 * p * k + (l / 2 * 2 + 1) := by
      have : 4 * p * k = 2 * (2 * p * k) := by grind
      omega
    have d2 : (q / 2 * 2 + 1) / (4 * p) = k := by rw [e2, Nat.mul_add_div h4, Nat.div_eq_of_lt (by omega), Nat.add_zero]
    have m2 : (q / 2 * 2 + 1) % (4 * p) = l / 2 * 2 + 1 := by rw [e2, Nat.mul_add_mod, Nat.mod_eq_of_lt (by omega)]
    unfold rup
    rw [d2, m2]
    congr 1
    apply propext
    omega
/-- Numerator and denominator, scaled. -/
def sA (N : Nat) (e : Int) : Nat := N * 2 ^ (-e).toNat
def sB (D : Nat) (e : Int) : Nat := D * 2 ^ e.toNat
theorem sB_pos {D : Nat} (h : 0 < D) (e : Int) : 0 < sB D e := Nat.mul_pos h (Nat.two_pow_pos _)
theorem ratio (N D : Nat) (e : Int) (d : Nat) : sA N (e + d) * (sB D e * 2 ^ d) = sA N e * sB D (e + d) := by
  unfold sA sB
  have h : (-(e + d)).toNat + (e.toNat + d) = (-e).toNat + (e + d).toNat := by omega
  have h2 : (2 : Nat) ^ (-(e + d)).toNat * (2 ^ e.toNat * 2 ^ d) = 2 ^ (-e).toNat * 2 ^ (e + d).toNat := by
    rw [← Nat.pow_add, ← Nat.pow_add, ← Nat.pow_add, h]
  generalize (2 : Nat) ^ (-(e + d)).toNat = a at *
  generalize (2 : Nat) ^ e.toNat = b at *
  generalize (2 : Nat) ^ d = c at *
  generalize (2 : Nat) ^ (-e).toNat = f at *
  generalize (2 : Nat) ^ (e + d).toNat = g at *
  have : N * a * (D * b * c) = N * D * (a * (b * c)) := by grind
  rw [this, h2]
  grind
def fl (N D : Nat) (e : Int) : Nat := sA N e / sB D e
theorem fl_add {N D : Nat} (hD : 0 < D) (e : Int) (d : Nat) : fl N D (e + d) = fl N D e / 2 ^ d := by
  have h := (div_ratio (sB_pos hD (e + d)) (Nat.mul_pos (sB_pos hD e) (Nat.two_pow_pos d)) (ratio N D e d)).1
  unfold fl
  rw [h, Nat.div_div_eq_div_mul]
theorem rup_add {N D : Nat} (hD : 0 < D) (e : Int) (d : Nat) : rup (sA N (e + d)) (sB D (e + d)) = rup (sA N e) (sB D e * 2 ^ d) :=
  rup_ratio (sB_pos hD _) (Nat.mul_pos (sB_pos hD e) (Nat.two_pow_pos d)) (ratio N D e d)
/-- The exponent that a quotient has. -/
def IsE (N D : Nat) (e : Int) : Prop := -1074 ≤ e ∧ fl N D e < 9007199254740992 ∧ (e = -1074 ∨ 9007199254740992 ≤ fl N D (e - 1))
theorem isE_one {N D : Nat} (hD : 0 < D) {e f : Int} (h : IsE N D e) (g : IsE N D f) : e = f := by
  have key : ∀ a b : Int, IsE N D a → IsE N D b → ¬ a < b := by
    intro a b ha hb hlt
    obtain ⟨d, hd⟩ : ∃ d : Nat, b - 1 = a + d := ⟨(b - 1 - a).toNat, by omega⟩
    rcases hb.2.2 with h1 | h1
    · have := ha.1; omega
    · rw [hd, fl_add hD] at h1
      have h2 := Nat.div_le_self (fl N D a) (2 ^ d)
      have := ha.2.1
      omega
  have := key e f h g
  have := key f e g h
  omega
theorem rup_le (x y : Nat) : x / y ≤ rup x y ∧ rup x y ≤ x / y + 1 := by
  unfold rup
  split <;> omega
/-- The bits of a mantissa and an exponent, without a sign. -/
def wb (M : Nat) (E : Int) : Nat := min (if 4503599627370496 ≤ M then M + (E + 1074).toNat * 4503599627370496 else M) 9218868437227405312
/-- As the reference puts them together. -/
def rM (M : Nat) : Nat := if M = 9007199254740992 then 4503599627370496 else M
def rE (M : Nat) (E : Int) : Int := if M = 9007199254740992 then E + 1 else E
def rb (M : Nat) (E : Int) : Nat := if 971 < rE M E then 9218868437227405312 else if 4503599627370496 ≤ rM M then (rE M E + 1075).toNat * 4503599627370496 + (rM M - 4503599627370496) else rM M
theorem small_E {N D : Nat} (hD : 0 < D) {e : Int} (h : IsE N D e) : rup (sA N e) (sB D e) ≤ 9007199254740992 ∧ (rup (sA N e) (sB D e) < 4503599627370496 → e = -1074) := by
  obtain ⟨a, b, c⟩ := h
  have r := rup_le (sA N e) (sB D e)
  unfold fl at b
  refine ⟨by omega, fun hs => ?_⟩
  rcases c with c | c
  · exact c
  · exfalso
    have := fl_add hD (e - 1) 1 (N := N)
    rw [show e - 1 + (1 : Nat) = e by omega] at this
    unfold fl at this c
    omega
end Nr
set_option linter.unusedVariables false
set_option linter.unusedSimpArgs false
namespace Go.Proofs.YtpdjpjkieafnbaaGreatDoor.Li
open Go.RowKit Lb
theorem nl_nrm {l : List Nat} (h : Nrm l) : nl l = l.length := by
  rcases l.eq_nil_or_concat with rfl | ⟨L, x, rfl⟩
  · rfl
  · have hx : x ≠ 0 := by simpa [Nrm] using h
    refine nl_eq _ _ ?_ ?_
    · intro j hj
      rw [List.getD_eq_getElem?_getD, List.getElem?_eq_none hj]; rfl
    · intro _
      simpa [List.getD] using hx
set_option maxHeartbeats 400000 in
theorem size_any (a : Option Addr) (c : Nat) (l : List Nat) (w : World) (hl : l.length ≤ 35184372088000) (hr : Rd w a l) (hm : Lim l) (hn : Nrm l) :
    Calls Tryz.prog 50 #[.slice a l.length c] w fun e w' => e = .returned (.int .i64 (lenB l : Nat)) ∧ w' = w := by
  have h1 := nl_nrm hn
  by_cases h0 : l.length = 0
  · have hb : ((l.length : Int) == 0) = true := by rw [beq_iff_eq]; omega
    have he : Hid (lenB l = 0) := by show _ = _; unfold lenB; rw [if_pos (by omega)]
    clear h0
    go_enter Tryz.func50, Tryz.ntmps50
    go_wp2
    go_ret
    exact ⟨ret_int (by rw [he.out]; rfl), rfl⟩
  · obtain ⟨m, hm'⟩ : ∃ m, l.length = m + 1 := ⟨l.length - 1, by omega⟩
    obtain ⟨x, hx⟩ : ∃ x, l.getD m 0 = x := ⟨_, rfl⟩
    have hxl : x < 4294967296 := hx ▸ Lim_getD hm _
    have he : Hid (lenB l = 32 * m + bitLen x) := by show _ = _; unfold lenB; rw [if_neg (by omega), h1, hm', Nat.add_sub_cancel, hx]
    have hbl := bitLen_le x hxl
    have hml : m ≤ 35184372088000 := by omega
    obtain ⟨b, o, rfl, hc⟩ := hr m (by omega)
    rw [hx] at hc
    rw [hm']
    clear hx hr h0 h1 hl hm' hn hm
    have hb2 : (((m : Int) + 1) == 0) = false := by simp; omega
    go_enter Tryz.func50, Tryz.ntmps50
    go_wp2
    go_loop [3, 4] (fun n t => ∃ k y : Nat, y < 4294967296 ∧ k + bitLen y = 32 * m + bitLen x ∧ k ≤ 32 * m + 32 ∧ n = .int .i64 k ∧ t = .int .u32 y) (fun _ t => (intOf t).toNat)
    case atStart => exact ⟨32 * m, x, hxl, rfl, by omega, by simp, rfl⟩
    case round =>
      obtain ⟨k, y, hy, hsum, hk2, rfl, rfl⟩ := hrel
      have Hs : Hid (k + bitLen y = 32 * m + bitLen x) := hsum
      clear hsum
      by_cases hy0 : 0 < y
      · have hh := bitLen_half y hy0
        have Hh : Hid (bitLen y = bitLen (y / 2) + 1) := hh
        have hk3 : k < 32 * m + 32 := by have := Hs.out; omega
        clear hh
        go_wp2
        go_round
        case rel => exact ⟨k + 1, y / 2, by omega, by have := Hs.out; have := Hh.out; omega, by omega, by go_num, by simp⟩
        case measure => simp [intOf]; omega
      · go_wp2
        go_ret
        exact ⟨ret_int (by
          have := Hs.out
          rw [show y = 0 by omega] at this
          simp [bitLen] at this
          rw [he.out, bitLen]; omega), rfl⟩
set_option maxHeartbeats 400000 in
theorem cmp_any (a b : Option Addr) (ca cb : Nat) (la lb : List Nat) (w : World) (hla : la.length ≤ 9223372036854775807) (_hlb : lb.length ≤ 9223372036854775807) (hra : Rd w a la) (hrb : Rd w b lb) :
    Calls Tryz.prog 97 #[.slice a la.length ca, .slice b lb.length cb] w fun e w' => e = .returned (.int .i64 (cmpL la lb)) ∧ Dr w w' := by
  by_cases hlt : la.length < lb.length
  · have heq : ((la.length : Int) != (lb.length : Int)) = true := by simp; omega
    go_enter Tryz.func97, Tryz.ntmps97
    go_wp2
    go_ret
    exact ⟨ret_int (by unfold cmpL; rw [if_pos hlt]), Dr.refl _⟩
  by_cases hgt : lb.length < la.length
  · have heq : ((la.length : Int) != (lb.length : Int)) = true := by simp; omega
    go_enter Tryz.func97, Tryz.ntmps97
    go_wp2
    go_ret
    exact ⟨ret_int (by unfold cmpL; rw [if_neg hlt, if_pos hgt]), Dr.refl _⟩
  have heq : ((la.length : Int) != (lb.length : Int)) = false := by simp; omega
  have hc : Hid (cmpL la lb = cmpTop la lb la.length) := by show _ = _; unfold cmpL; rw [if_neg hlt, if_neg hgt]
  go_enter Tryz.func97, Tryz.ntmps97
  go_wp2
  go_loopw [5] (fun i wr => ∃ k : Nat, k ≤ la.length ∧ i = .int .i64 ((k : Int) - 1) ∧ Hid (cmpTop la lb k = cmpTop la lb la.length) ∧ Dr w wr) (fun i _ => (intOf i + 1).toNat)
  case atStart => exact ⟨la.length, Nat.le_refl _, rfl, rfl, Dr.refl _⟩
  case round =>
    obtain ⟨k, hk, rfl, hrest, hd⟩ := hrel
    rcases k with _ | k
    · go_wp2
      go_ret
      exact ⟨ret_int (by rw [hc.out, ← hrest.out]; rfl), hd⟩
    · have e1 : ((k + 1 : Nat) : Int) - 1 = (k : Int) := by omega
      rw [e1]
      obtain ⟨b1, o1, rfl, hc1⟩ := hra k (by omega)
      obtain ⟨b2, o2, rfl, hc2⟩ := hrb k (by omega)
      obtain ⟨x, hx⟩ : ∃ x, la.getD k 0 = x := ⟨_, rfl⟩
      obtain ⟨y, hy⟩ : ∃ y, lb.getD k 0 = y := ⟨_, rfl⟩
      rw [hx, ← hd.cell] at hc1
      rw [hy, ← hd.cell] at hc2
      have hstep : Hid (cmpTop la lb (k + 1) = if x < y then -1 else if y < x then 1 else cmpTop la lb k) := by
        show _ = _
        rw [cmpTop, hx, hy]
      clear hx hy e1
      rcases Nat.lt_trichotomy x y with hxy | hxy | hxy
      · have hne : ((x : Int) != (y : Int)) = true := by simp; omega
        go_wp2
        go_quiet (fail)
        have hd1 : Dr w (wr.drewN nq) := hd.drewN nq
        have hc1' : (wr.drewN nq).cell? _ = _ := hc1
        have hc2' : (wr.drewN nq).cell? _ = _ := hc2
        clear hc1 hc2 hd
        generalize wr.drewN nq = w1 at hd1 hc1' hc2' ⊢
        go_wp2_with fail
        go_quiet (fail)
        go_wp2
        go_ret
        exact ⟨ret_int (by rw [hc.out, ← hrest.out, hstep.out, if_pos hxy]), hd1.drewN _⟩
      · subst hxy
        go_wp2
        go_quiet (fail)
        go_wp2
        go_roundw
        case rel => exact ⟨k, by omega, by go_num, by rw [← hrest.out, hstep.out, if_neg (by omega), if_neg (by omega)]; rfl, hd.drewN _⟩
        case measure => simp [intOf]
      · have hne : ((x : Int) != (y : Int)) = true := by simp; omega
        have hd' : decide ((x : Int) < y) = false := by simp; omega
        go_wp2
        go_quiet (fail)
        have hd1 : Dr w (wr.drewN nq) := hd.drewN nq
        have hc1' : (wr.drewN nq).cell? _ = _ := hc1
        have hc2' : (wr.drewN nq).cell? _ = _ := hc2
        clear hc1 hc2 hd
        generalize wr.drewN nq = w1 at hd1 hc1' hc2' ⊢
        go_wp2_with fail
        go_quiet (fail)
        go_wp2
        go_ret
        exact ⟨ret_int (by rw [hc.out, ← hrest.out, hstep.out, if_neg (by omega), if_pos hxy]), hd1.drewN _⟩
/-- How many binary digits a number has. -/
def sz (n : Nat) : Nat := if n = 0 then 0 else n.log2 + 1
theorem sz_of {n s : Nat} (h1 : 2 ^ s ≤ n) (h2 : n < 2 ^ (s + 1)) : sz n = s + 1 := by
  have h0 : n ≠ 0 := by have := Nat.two_pow_pos s; omega
  unfold sz
  rw [if_neg h0]
  congr 1
  have a := Nat.log2_self_le h0
  have b : n < 2 ^ (n.log2 + 1) := Nat.lt_log2_self
  have c := (Nat.pow_lt_pow_iff_right (a := 2) (by omega)).1 (Nat.lt_of_le_of_lt a h2)
  have d := (Nat.pow_lt_pow_iff_right (a := 2) (by omega)).1 (Nat.lt_of_le_of_lt h1 b)
  omega
theorem sz_lenB {l : List Nat} (hm : Lim l) (hn : Nrm l) : lenB l = sz (val l) := by
  have h1 := nl_nrm hn
  by_cases h0 : nl l = 0
  · have : l = [] := List.length_eq_zero_iff.1 (by omega)
    subst this
    rfl
  · have a := val_lt_len l hm
    have b := val_ge_len l h0
    have c : 0 < lenB l := by
      rcases Nat.eq_zero_or_pos (lenB l) with h | h
      · rw [h] at a b
        simp at a b
        omega
      · exact h
    obtain ⟨s, hs⟩ : ∃ s, lenB l = s + 1 := ⟨lenB l - 1, by omega⟩
    rw [hs] at a b ⊢
    exact (sz_of b a).symm
theorem sz_lt (n : Nat) : n < 2 ^ sz n := by
  unfold sz
  split
  · rename_i h; subst h; decide
  · exact Nat.lt_log2_self
theorem sz_ge {n : Nat} (h : 0 < n) : 2 ^ (sz n - 1) ≤ n ∧ 0 < sz n := by
  unfold sz
  rw [if_neg (by omega)]
  exact ⟨Nat.log2_self_le (by omega), by omega⟩
theorem sz_le {n k : Nat} (h : n < 2 ^ k) : sz n ≤ k := by
  rcases Nat.eq_zero_or_pos n with h0 | h0
  · subst h0; unfold sz; simp
  · have a := (sz_ge h0).1
    have b := (Nat.pow_lt_pow_iff_right (a := 2) (by omega)).1 (Nat.lt_of_le_of_lt a h)
    omega
theorem Nv.few {w : World} {v : Value} {n k : Nat} (h : Nv w v n) (hn : n < 4294967296 ^ k) : ∃ a c l, v = .slice a l.length c ∧ l.length ≤ c ∧ Rd w a l ∧ Lim l ∧ Nrm l ∧ val l = n ∧ l.length ≤ k := by
  obtain ⟨a, c, l, e, h1, h2, h3, h4, h5⟩ := h
  exact ⟨a, c, l, e, h1, h2, h3, h4, h5, len_of h4 (by rw [h5]; exact hn)⟩
theorem size_same (v : Value) (n k : Nat) (w : World) (h : Nv w v n) (hn : n < 4294967296 ^ k) (hk : k ≤ 35184372088000) :
    Calls Tryz.prog 50 #[v] w fun e w' => e = .returned (.int .i64 (sz n : Nat)) ∧ w' = w := by
  obtain ⟨a, c, l, rfl, h1, h2, h3, h4, h5, h6⟩ := h.few hn
  have := size_any a c l w (by omega) h2 h3 h4
  rw [sz_lenB h3 h4, h5] at this
  exact this
theorem size_nv (v : Value) (n k : Nat) (w : World) (h : Nv w v n) (hn : n < 4294967296 ^ k) (hk : k ≤ 35184372088000) :
    Calls Tryz.prog 50 #[v] w fun e w' => e = .returned (.int .i64 (sz n : Nat)) ∧ Keep w w' := by
  refine (size_same v n k w h hn hk).mono ?_
  rintro e w' ⟨rfl, rfl⟩
  exact ⟨rfl, Keep.refl _⟩
theorem cmp_nv (v1 v2 : Value) (x y k : Nat) (w : World) (h : Nv w v1 x) (g : Nv w v2 y) (hx : x < 4294967296 ^ k) (hy : y < 4294967296 ^ k) (hk : k ≤ 35184372088000) :
    Calls Tryz.prog 97 #[v1, v2] w fun e w' => e = .returned (.int .i64 (cmpN x y)) ∧ Keep w w' := by
  obtain ⟨a, c, l, rfl, h1, h2, h3, h4, h5, h6⟩ := h.few hx
  obtain ⟨b, d, m, rfl, g1, g2, g3, g4, g5, g6⟩ := g.few hy
  have := cmp_any a b c d l m w (by omega) (by omega) h2 g2
  rw [cmpL_eq l m h3 g3 h4 g4, h5, g5] at this
  refine this.mono ?_
  rintro e w' ⟨rfl, hd⟩
  exact ⟨rfl, hd.keep⟩
set_option maxHeartbeats 400000 in
theorem up_nil (a : Option Addr) (c n : Nat) (w : World) :
    Calls Tryz.prog 51 #[.slice a 0 c, .int .i64 (n : Nat)] w fun e w' => e = .returned (.slice none 0 0) ∧ Keep w w' := by
  go_enter Tryz.func51, Tryz.ntmps51
  go_wp2
  go_ret
  exact ⟨rfl, Keep.refl _⟩
theorem up_nv (v : Value) (x n k : Nat) (w : World) (h : Nv w v x) (hx : x < 4294967296 ^ k) (hk : n / 32 + k ≤ 35184372088800) (hn : n ≤ 1125899906842624000) :
    Calls Tryz.prog 51 #[v, .int .i64 (n : Nat)] w fun e w' => ∃ v, e = .returned v ∧ Nv w' v (x * 2 ^ n) ∧ Keep w w' := by
  obtain ⟨a, c, l, rfl, h1, h2, h3, h4, h5, h6⟩ := h.few hx
  rcases Nat.eq_zero_or_pos l.length with h0 | h0
  · have e := List.length_eq_zero_iff.1 h0
    subst e
    have e2 : x = 0 := by rw [← h5]; rfl
    subst e2
    refine (up_nil a c n w).mono ?_
    rintro e w' ⟨rfl, hk'⟩
    exact ⟨_, rfl, ⟨none, 0, [], rfl, by simp, Rd.nil _ _, by intro x hx; simp at hx, by simp [Nrm], by simp [val]⟩, hk'⟩
  · have := up_any a c n l w h0 (by omega) hn h2 h3
    rw [h5] at this
    exact this
/-- One step of the difference. -/
theorem subStepB (q A B' P x y d : Nat) (c c' t : Int) (hv : (q : Int) + c * (P : Int) = (A : Int) - (B' : Int)) (ht : t = c + x - y) (hd : t = d + 4294967296 * c') :
    ((q + P * d : Nat) : Int) + c' * ((P * 4294967296 : Nat) : Int) = ((A + x * P : Nat) : Int) - ((B' + y * P : Nat) : Int) := by
  simp only [Int.natCast_add, Int.natCast_mul]
  have h1 : (d : Int) = c + x - y - 4294967296 * c' := by omega
  rw [h1]
  generalize (P : Int) = p at *
  grind
set_option maxHeartbeats 400000 in
theorem minus_any (a b : Option Addr) (ca cb : Nat) (la lb : List Nat) (w : World) (hla : la.length ≤ 35184372088000) (hlb : lb.length ≤ la.length) (hra : Rd w a la) (hrb : Rd w b lb) (hma : Lim la) (hmb : Lim lb) (hle : val lb ≤ val la) :
    Calls Tryz.prog 140 #[.slice a la.length ca, .slice b lb.length cb] w fun e w' => ∃ v, e = .returned v ∧ Nv w' v (val la - val lb) ∧ Keep w w' := by
  have HL : Hid (val lb ≤ val la) := hle
  clear hle
  go_enter Tryz.func140, Tryz.ntmps140
  go_wp2_with fail
  go_loopw [5, 6, 7] (fun v c i wr => ∃ (k : Nat) (t : Int) (q : List Nat), k ≤ la.length ∧ i = .int .i64 k ∧ c = .int .i64 t ∧ -1 ≤ t ∧ t ≤ 0 ∧ Own w.heap.size wr v q ∧ Hid (q.length = k) ∧ Lim q ∧ Hid ((val q : Int) + t * ((4294967296 ^ k : Nat) : Int) = (val (la.take k) : Int) - (val (lb.take k) : Int)) ∧ Keep w wr) (fun _ _ i _ => la.length - (intOf i).toNat)
  case atStart => exact ⟨0, 0, [], by omega, rfl, rfl, by omega, by omega, World.ownsRow_nil _ _ _ _, by show _ = _; simp, by intro x hx; simp at hx, by show _ = _; simp [val], Keep.refl _⟩
  case round =>
    obtain ⟨k, t, q, hkk, rfl, rfl, ht1, ht2, hown, hql, hmq, hv, hkp⟩ := hrel
    have hql' : q.length < 35184372088832 := by rw [hql.out]; omega
    obtain ⟨vs, cq, rfl, hcq, hrq⟩ := hown.shape
    clear hrq
    by_cases hkL : k < la.length
    · obtain ⟨b1, o1, rfl, hx1⟩ := (hra.keep hkp) k hkL
      obtain ⟨x, hx⟩ : ∃ x, la.getD k 0 = x := ⟨_, rfl⟩
      have hxl : x < 4294967296 := hx ▸ Lim_getD hma _
      rw [hx] at hx1
      have Hx : Hid (la.getD k 0 = x) := hx; clear hx
      obtain ⟨y, hy⟩ : ∃ y, lb.getD k 0 = y := ⟨_, rfl⟩
      have hyl : y < 4294967296 := hy ▸ Lim_getD hmb _
      have Hy : Hid (lb.getD k 0 = y) := hy
      obtain ⟨T, hT⟩ : ∃ T : Int, t + x - y = T := ⟨_, rfl⟩
      obtain ⟨d, hd⟩ : ∃ d : Nat, T % 4294967296 = d := ⟨(T % 4294967296).toNat, by omega⟩
      have HV : Hid ((val (q ++ [d]) : Int) + T / 4294967296 * ((4294967296 ^ (k + 1) : Nat) : Int) = (val (la.take (k + 1)) : Int) - (val (lb.take (k + 1)) : Int)) := by
        show _ = _
        rw [val_snoc, hql.out, Nat.pow_succ, val_take_succ, val_take_succ, Hx.out, Hy.out]
        exact subStepB _ _ _ _ x y d t _ T hv.out hT.symm (by omega)
      have Hql : Hid (∀ n, (q ++ [n]).length = k + 1) := by intro n; have := hql.out; simp; omega
      have hd2 : d < 4294967296 := by omega
      have hT2 : -1 ≤ T / 4294967296 ∧ T / 4294967296 ≤ 0 := by omega
      have hw1 : wrap64 (t + (x : Int)) = t + x := IntWalk.wrap64_in _ (by omega)
      by_cases hB : k < lb.length
      · obtain ⟨b2, o2, rfl, hy1⟩ := (hrb.keep hkp) k hB
        rw [hy] at hy1
        have hw2 : wrap64 (t + (x : Int) - y) = t + (x : Int) - y := IntWalk.wrap64_in _ (by omega)
        have HT : Hid (t + (x : Int) - y = T) := hT
        clear hy hT
        go_wp2_with (at_builtin; refine wpList_app32 rfl _ _ rfl q _ rfl _ d ?_ rfl hown hkp hql' ?_; rotate_left; intro v' w1' hown' hk')
        go_roundw
        case rel => exact ⟨k + 1, T / 4294967296, _, by omega, by go_num, by simp [HT.out], hT2.1, hT2.2, hown', Hql.out _, Lim_snoc hmq _ hd2, HV, hk'⟩
        case measure => simp [intOf]; omega
        · rw [HT.out]; exact hd
      · have hy0 : y = 0 := by rw [← hy]; exact getD_past lb k hB
        subst hy0
        have hT' : t + (x : Int) = T := by omega
        clear hy hT
        go_wp2_with (at_builtin; refine wpList_app32 rfl _ _ rfl q _ rfl _ d ?_ rfl hown hkp hql' ?_; rotate_left; intro v' w1' hown' hk')
        go_roundw
        case rel => exact ⟨k + 1, T / 4294967296, _, by omega, by go_num, by simp, hT2.1, hT2.2, hown', Hql.out _, Lim_snoc hmq _ hd2, HV, hk'⟩
        case measure => simp [intOf]; omega
        · rfl
    · have hke : k = la.length := by omega
      subst hke
      rw [List.take_of_length_le (Nat.le_refl _), List.take_of_length_le hlb] at hv
      have HF : Hid (val q = val la - val lb) := by
        show _ = _
        have h1 := HL.out
        have h2 := hv.out
        have h3 := val_lt hmq
        rw [hql.out] at h3
        rcases (show t = 0 ∨ t = -1 by omega) with h | h
        · subst h; rw [Int.zero_mul] at h2; omega
        · subst h; rw [Int.neg_mul, Int.one_mul] at h2; omega
      have hN := norm_any vs cq q wr hcq (by omega) (by have := hown.shape; obtain ⟨a', c', e', _, r'⟩ := this; simp only [Value.slice.injEq] at e'; rw [e'.1]; exact r')
      go_wp2_with fail
      refine hN.mono ?_
      rintro e w5 ⟨rfl, rfl⟩
      go_wp2_with fail
      go_ret
      have hcut : (q.take (nl q)).length = nl q := by rw [List.length_take]; have := nl_le q; omega
      refine ⟨_, rfl, ⟨vs, cq, q.take (nl q), by rw [hcut]; rfl, by have := nl_le q; omega, ?_, Lim_take hmq _, Nrm_take _, by rw [val_take_nl]; exact HF.out⟩, hkp⟩
      obtain ⟨a', c', e', _, r'⟩ := hown.shape
      simp only [Value.slice.injEq] at e'
      rw [e'.1]
      exact r'.take _
theorem minus_nv (v1 v2 : Value) (x y k : Nat) (w : World) (h : Nv w v1 x) (g : Nv w v2 y) (hx : x < 4294967296 ^ k) (hk : k ≤ 35184372088000) (hle : y ≤ x) :
    Calls Tryz.prog 140 #[v1, v2] w fun e w' => ∃ v, e = .returned v ∧ Nv w' v (x - y) ∧ Keep w w' := by
  obtain ⟨a, c, l, rfl, h1, h2, h3, h4, h5, h6⟩ := h.few hx
  obtain ⟨b, d, m, rfl, g1, g2, g3, g4, g5⟩ := g
  have hl : m.length ≤ l.length := len_of g4 (by
    have := val_lt h3
    rw [g5]
    omega)
  have := minus_any a b c d l m w (by omega) hl h2 g2 h3 g3 (by omega)
  rw [h5, g5] at this
  exact this
/-- A bit put into a number that has none from there down. -/
theorem or_bit {Q z : Nat} (hz : z ≤ 64) (hd : 2 ^ (z + 1) ∣ Q) : Q % 18446744073709551616 ||| (2 ^ z % 18446744073709551616) = (Q + 2 ^ z) % 18446744073709551616 := by
  rcases Nat.lt_or_ge z 64 with h | h
  · obtain ⟨m, rfl⟩ := hd
    have e : (18446744073709551616 : Nat) = 2 ^ (z + 1) * 2 ^ (63 - z) := by rw [← Nat.pow_add, show z + 1 + (63 - z) = 64 by omega]
    have h1 : 2 ^ z < 18446744073709551616 := Nat.lt_of_lt_of_le (Nat.pow_lt_pow_right (a := 2) (by omega) h) (by decide)
    have h2 : 2 ^ (z + 1) * m % 18446744073709551616 = 2 ^ (z + 1) * (m % 2 ^ (63 - z)) := by rw [e, Nat.mul_mod_mul_left]
    have hlt : 2 ^ z < 2 ^ (z + 1) := Nat.pow_lt_pow_right (by omega) (by omega)
    rw [Nat.mod_eq_of_lt h1, h2, ← Nat.two_pow_add_eq_or_of_lt hlt, Nat.add_mod, h2, Nat.mod_eq_of_lt h1]
    refine (Nat.mod_eq_of_lt ?_).symm
    have h3 : m % 2 ^ (63 - z) + 1 ≤ 2 ^ (63 - z) := Nat.mod_lt _ (Nat.two_pow_pos _)
    have h4 := Nat.mul_le_mul_left (2 ^ (z + 1)) h3
    rw [← e, Nat.mul_add, Nat.mul_one] at h4
    omega
  · have : z = 64 := by omega
    subst this
    rw [show (2 : Nat) ^ 64 = 18446744073709551616 from rfl]
    simp
theorem shr1 (z : Nat) (hz : z ≤ 64) : IntKind.u64.wrap ((2 : Int) ^ z) = ((2 ^ z % 18446744073709551616 : Nat) : Int) := by
  have e : (2 : Int) ^ z = ((2 ^ z : Nat) : Int) := (Int.natCast_pow 2 z).symm
  rw [IntKind.wrap_u64, e]
  omega
set_option maxRecDepth 100000 in
set_option maxHeartbeats 400000 in
theorem divide_nv (v1 v2 : Value) (x y k : Nat) (w : World) (h : Nv w v1 x) (g : Nv w v2 y) (hy0 : 0 < y) (hx : x < 4294967296 ^ k) (hy : y < 4294967296 ^ k) (hk : k ≤ 35184372087990) (hs : (sz x : Int) - (sz y : Int) ≤ 64) :
    Calls Tryz.prog 96 #[v1, v2] w fun e w' => ∃ v, e = .returned (.tuple #[.int .u64 ((x / y % 18446744073709551616 : Nat) : Int), v]) ∧ Nv w' v (x % y) ∧ Keep w w' := by
  have h1 := size_nv v1 x k w h hx (by omega)
  have h2 := fun wx (kx : Keep w wx) => size_nv v2 y k wx (g.keep kx) hy (by omega)
  have hU := fun (z : Nat) (hz : z ≤ 64) wx (kx : Keep w wx) => up_nv v2 y z k wx (g.keep kx) hy (by omega) (by omega)
  have hbx : sz x ≤ 32 * k := sz_le (by rw [← word_pow]; exact hx)
  have hby : sz y ≤ 32 * k := sz_le (by rw [← word_pow]; exact hy)
  have HA : Hid (x < y * 2 ^ ((sz x : Int) - (sz y : Int) + 1).toNat) := by
    show _ < _
    have a := sz_lt x
    obtain ⟨b, c⟩ := sz_ge hy0
    have d : 2 ^ sz x ≤ 2 ^ (sz y - 1) * 2 ^ ((sz x : Int) - (sz y : Int) + 1).toNat := by
      rw [← Nat.pow_add]
      exact Nat.pow_le_pow_right (by omega) (by omega)
    have e := Nat.mul_le_mul_right (2 ^ ((sz x : Int) - (sz y : Int) + 1).toNat) b
    omega
  have HX : Hid (x < 4294967296 ^ k) := hx
  have HY : Hid (y < 4294967296 ^ k) := hy
  clear hx hy
  obtain ⟨n, hn⟩ : ∃ n : Int, (sz x : Int) - (sz y : Int) = n := ⟨_, rfl⟩
  have hw : wrap64 ((sz x : Int) - (sz y : Int)) = n := by rw [hn]; exact IntWalk.wrap64_in _ (by omega)
  have hnb : -10000000000000000 ≤ n ∧ n ≤ 64 := by omega
  rw [hn] at HA
  clear hs hbx hby
  go_enter Tryz.func96, Tryz.ntmps96
  go_wp2_with fail
  refine h1.mono ?_
  rintro e w1 ⟨rfl, k1⟩
  go_wp2_with fail
  refine (h2 _ k1).mono ?_
  rintro e w2 ⟨rfl, k2⟩
  have k12 := k1.trans k2
  go_wp2_with fail
  go_loopw [0, 6, 8] (fun va q i wr => ∃ (z : Int) (Q r : Nat), i = .int .i64 z ∧ -10000000000000000 ≤ z ∧ z ≤ 64 ∧ q = .int .u64 ((Q % 18446744073709551616 : Nat) : Int) ∧ Nv wr va r ∧ Hid (x = Q * y + r) ∧ Hid (r < y * 2 ^ (z + 1).toNat) ∧ Hid (2 ^ (z + 1).toNat ∣ Q) ∧ Keep w wr) (fun _ _ i _ => (intOf i + 1).toNat)
  case atStart => exact ⟨n, 0, x, rfl, hnb.1, hnb.2, rfl, h.keep k12, by show _ = _; simp, HA, Nat.dvd_zero _, k12⟩
  case round =>
    obtain ⟨z, Q, r, rfl, hz1, hz2, rfl, nv, he, hr, hd, hkp⟩ := hrel
    by_cases hz : 0 ≤ z
    · obtain ⟨m, rfl⟩ := Int.eq_ofNat_of_zero_le hz
      have em : ((m : Int) + 1).toNat = m + 1 := by omega
      rw [em] at hr hd
      have hm : m ≤ 64 := by omega
      have hrx : r ≤ x := by have := he.out; omega
      go_wp2_with fail
      refine (hU m (by omega) _ hkp).mono ?_
      rintro e w3 ⟨vt, rfl, nt, k3⟩
      have hb1 : r < 4294967296 ^ (k + 3) := Nat.lt_of_le_of_lt hrx (Nat.lt_of_lt_of_le HX.out (Nat.pow_le_pow_right (by omega) (by omega)))
      have hb2 : y * 2 ^ m < 4294967296 ^ (k + 3) := by
        rw [Nat.pow_add]
        have h5 : 2 ^ m ≤ 4294967296 ^ 3 := Nat.le_trans (Nat.pow_le_pow_right (by omega) hm) (by decide)
        exact Nat.mul_lt_mul_of_lt_of_le HY.out h5 (by decide)
      have hC := cmp_nv _ _ r (y * 2 ^ m) (k + 3) w3 (nv.keep k3) nt hb1 hb2 (by omega)
      replace hb1 : Hid _ := hb1
      replace hb2 : Hid _ := hb2
      go_wp2_with fail
      refine hC.mono ?_
      rintro e w4 ⟨rfl, k4⟩
      by_cases hc : y * 2 ^ m ≤ r
      · have hcm : decide (0 ≤ cmpN r (y * 2 ^ m)) = true := by
          unfold cmpN
          rw [if_neg (by omega)]
          split <;> rfl
        have hM := minus_nv _ _ r (y * 2 ^ m) (k + 3) w4 ((nv.keep k3).keep k4) (nt.keep k4) hb1.out (by omega) hc
        have HC : Hid (y * 2 ^ m ≤ r) := hc
        clear hc
        go_wp2_with fail
        refine hM.mono ?_
        rintro e w5 ⟨v5, rfl, n5, k5⟩
        have ho : bits BinOp.or IntKind.u64 ((Q : Int) % 18446744073709551616) (IntKind.u64.wrap (2 ^ m)) = (((Q + 2 ^ m) % 18446744073709551616 : Nat) : Int) := by
          rw [show (Q : Int) % 18446744073709551616 = ((Q % 18446744073709551616 : Nat) : Int) by omega, shr1 m hm, u64_or_nat _ _ (Nat.mod_lt _ (by decide)) (Nat.mod_lt _ (by decide)), or_bit hm hd.out]
        go_wp2_with fail
        go_roundw
        case rel =>
          have em2 : ((m : Int) - 1 + 1).toNat = m := by omega
          refine ⟨(m : Int) - 1, Q + 2 ^ m, r - y * 2 ^ m, rfl, by omega, by omega, by simp, n5, ?_, ?_, ?_, ((hkp.trans k3).trans k4).trans k5⟩
          · show _ = _
            have h6 := he.out
            have h7 := HC.out
            rw [Nat.add_mul, Nat.mul_comm (2 ^ m) y]
            omega
          · show _ < _
            have h6 := hr.out
            have h7 := HC.out
            rw [Nat.pow_succ, ← Nat.mul_assoc] at h6
            rw [em2]
            omega
          · show _ ∣ _
            rw [em2]
            exact Nat.dvd_add (Nat.dvd_trans (Nat.pow_dvd_pow 2 (by omega)) hd.out) (Nat.dvd_refl _)
        case measure => simp [intOf]
      · have hcm : decide (0 ≤ cmpN r (y * 2 ^ m)) = false := by
          unfold cmpN
          rw [if_pos (by omega)]
          rfl
        have HC : Hid (r < y * 2 ^ m) := by show _ < _; omega
        clear hc
        go_wp2_with fail
        go_roundw
        case rel =>
          have em2 : ((m : Int) - 1 + 1).toNat = m := by omega
          refine ⟨(m : Int) - 1, Q, r, rfl, by omega, by omega, rfl, (nv.keep k3).keep k4, he, ?_, ?_, (hkp.trans k3).trans k4⟩
          · show _ < _
            rw [em2]
            exact HC.out
          · show _ ∣ _
            rw [em2]
            exact Nat.dvd_trans (Nat.pow_dvd_pow 2 (by omega)) hd.out
        case measure => simp [intOf]
    · have e0 : (z + 1).toNat = 0 := by omega
      rw [e0, Nat.pow_zero, Nat.mul_one] at hr
      have hq : Hid (Q = x / y ∧ r = x % y) := by
        have h6 := he.out
        have h7 := hr.out
        refine ⟨?_, ?_⟩
        · rw [h6, Nat.add_comm, Nat.add_mul_div_right _ _ hy0, Nat.div_eq_of_lt h7, Nat.zero_add]
        · rw [h6, Nat.add_comm, Nat.add_mul_mod_self_right, Nat.mod_eq_of_lt h7]
      go_wp2_with fail
      go_ret2
      obtain ⟨hq1, hq2⟩ := hq.out
      have e1 : (Q : Int) = (x : Int) / (y : Int) := by rw [hq1]; simp
      exact ⟨u0, by simp [e1], by rw [← hq2]; exact nv, hkp⟩
end Go.Proofs.YtpdjpjkieafnbaaGreatDoor.Li
