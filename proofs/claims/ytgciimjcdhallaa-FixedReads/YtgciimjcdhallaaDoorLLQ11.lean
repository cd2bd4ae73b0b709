import Derived.Test.YtgciimjcdhallaaDoorProg
import Derived.Test.YtgciimjcdhallaaDoorLLQ10
import Derived.WalkKit
import Derived.WalkSpells
import Derived.WalkLawsBesides
import Derived.Laws.CopyOwn
import Derived.Deep.Draws
import Derived.Deep.QuietTactic
import Derived.BigQuiet
import Derived.Laws.MathBits
import Derived.Shelf.Small.Bits
import Derived.Laws.BytesArg
import Derived.Lib.OthersKept
import Derived.Deep.RegionWith
import Derived.Laws.Externs
import Derived.WalkMore
import Derived.Deep.LoopGhost
import Derived.Deep.RegionHeld3
set_option linter.unusedVariables false
set_option linter.unusedSimpArgs false
namespace Go.Proofs.YtgciimjcdhallaaDoor.Li
open Go.RowKit Lb
theorem Lim_snoc {l : List Nat} (h : Lim l) (x : Nat) (hx : x < 4294967296) : Lim (l ++ [x]) := by
  intro y hy
  simp at hy
  rcases hy with hy | hy
  · exact h y hy
  · omega
theorem val_snoc (q : List Nat) (y : Nat) : val (q ++ [y]) = val q + 4294967296 ^ q.length * y := by rw [val_append]; simp [val]
theorem snoc_step (q : List Nat) (A t x y S X : Nat) (hq : 4294967296 ^ q.length = X) (hv : val q + t * X = A) (hS : S = A + (x + y) * X) : val (q ++ [(t + x + y) % 4294967296]) + (t + x + y) / 4294967296 * (X * 4294967296) = S := by
  have h := Nat.div_add_mod' (t + x + y) 4294967296
  have h2 : ((t + x + y) / 4294967296 * 4294967296 + (t + x + y) % 4294967296) * X = (t + x + y) * X := by rw [h]
  rw [val_snoc, hq]
  grind
theorem upStep (A1 A2 A3 x P : Nat) : A3 * (A1 * P) + x * P * (A1 * A2) = (A3 + x * A2) * (A1 * P) := by grind
set_option maxRecDepth 100000 in
set_option maxHeartbeats 400000 in
theorem up_any (a : Option Addr) (ca n : Nat) (la : List Nat) (w : World) (h0 : 0 < la.length) (hla : la.length ≤ 35184372000000) (hn : n ≤ 1048576) (hra : Rd w a la) (hma : Lim la) :
    Calls Tryd.prog 53 #[.slice a la.length ca, .int .i64 (n : Nat)] w fun e w' => ∃ v, e = .returned v ∧ Nv w' v (val la * 2 ^ n) ∧ Keep w w' := by
  obtain ⟨W, hW⟩ : ∃ W, n / 32 = W := ⟨_, rfl⟩
  obtain ⟨p, hp⟩ : ∃ p, n % 32 = p := ⟨_, rfl⟩
  have hWi : (n : Int) / 32 = (W : Int) := by omega
  have hpi : (n : Int) % 32 = (p : Int) := by omega
  have hp32 : p < 32 := by omega
  have hWb : W ≤ 32768 := by omega
  have hWb2 : W ≤ 70368744177664 := by omega
  have hrp : n = 32 * W + p := by omega
  have hpow : 2 ^ n = 4294967296 ^ W * 2 ^ p := by rw [hrp, Nat.pow_add, Nat.pow_mul]
  have HP : Hid (2 ^ n = 4294967296 ^ W * 2 ^ p) := hpow
  have hne : ((la.length : Int) == 0) = false := by rw [beq_eq_false_iff_ne]; omega
  clear hW hp hrp hpow
  go_enter Tryd.func53, Tryd.ntmps53
  go_wp2_with fail
  go_loopw [5, 6] (fun v i wr => ∃ (k : Nat), k ≤ W ∧ i = .int .i64 k ∧ Own w.heap.size wr v (List.replicate k 0) ∧ Keep w wr) (fun _ i _ => W - (intOf i).toNat)
  case atStart => exact ⟨0, by omega, rfl, World.ownsRow_nil _ _ _ _, Keep.refl _⟩
  case round =>
    obtain ⟨k, hkW, rfl, hown, hkp⟩ := hrel
    obtain ⟨vs, cq, rfl, hcq, hrq⟩ := hown.shape
    clear hrq
    by_cases hkL : k < W
    · have hlen : (List.replicate k 0).length < 35184372088832 := by simp; omega
      go_wp2_with (at_builtin; refine wpList_app32 rfl _ _ rfl (List.replicate k 0) _ rfl _ 0 ?_ rfl hown hkp hlen ?_; rotate_left; intro v' w1' hown' hk')
      go_roundw
      case rel => exact ⟨k + 1, by omega, by go_num, by rw [List.replicate_succ']; exact hown', hk'⟩
      case measure => simp [intOf]; omega
      all_goals simp
    · have hke : k = W := by omega
      subst hke
      go_wp2_with fail
      have hown0 := hown
      simp only [hpi]
      go_loopw [5, 8, 9] (fun v c i wr => ∃ (j t : Nat) (q : List Nat), j ≤ la.length ∧ i = .int .i64 j ∧ c = .int .u64 t ∧ t < 4294967296 ∧ Hid (t < 2 ^ p) ∧ Own w.heap.size wr v q ∧ Hid (q.length = k + j) ∧ Lim q ∧ Hid (val q + t * 4294967296 ^ (k + j) = val (la.take j) * 2 ^ n) ∧ Keep w wr) (fun _ _ i _ => la.length - (intOf i).toNat)
      case atStart => exact ⟨0, 0, _, by omega, rfl, rfl, by omega, Nat.pos_of_ne_zero (by simp), hown0, by show _ = _; simp, by intro x hx; simp at hx; omega, by show _ = _; rw [val_rep]; simp [val], hkp⟩
      case round =>
        obtain ⟨j, t, q, hkk, rfl, rfl, ht, htp, hown, hql, hmq, hv, hkp⟩ := hrel
        have hql' : q.length < 35184372088832 := by rw [hql.out]; omega
        obtain ⟨vs, cq, rfl, hcq, hrq⟩ := hown.shape
        clear hrq
        by_cases hkL : j < la.length
        · obtain ⟨b1, o1, rfl, hx1⟩ := (hra.keep hkp) j hkL
          obtain ⟨x, hx⟩ : ∃ x, la.getD j 0 = x := ⟨_, rfl⟩
          have hxl : x < 4294967296 := hx ▸ Lim_getD hma _
          rw [hx] at hx1
          have Hx : Hid (la.getD j 0 = x) := hx; clear hx
          obtain ⟨y, hy⟩ : ∃ y, x * 2 ^ p = y := ⟨_, rfl⟩
          have hp31 : 2 ^ p ≤ 2147483648 := Nat.le_trans (Nat.pow_le_pow_right (by omega) (show p ≤ 31 by omega)) (by decide)
          have hyl : y < 9223372036854775808 := by
            rw [← hy]
            exact Nat.lt_of_lt_of_le (Nat.mul_lt_mul_of_lt_of_le hxl hp31 (by omega)) (by decide)
          have hc2 : t + y < 2 ^ p * 4294967296 := by
            rw [← hy]
            have h1 : t < 2 ^ p := htp
            have h2 := Nat.mul_le_mul_right (2 ^ p) (show x ≤ 4294967295 by omega)
            omega
          have hcl : Hid ((t + y) / 4294967296 < 2 ^ p) := by
            show _ < _
            rw [Nat.div_lt_iff_lt_mul (by omega)]; exact hc2
          have hor : bits BinOp.or IntKind.u64 (t : Int) (IntKind.u64.wrap ((x : Int) * 2 ^ p)) = (t : Int) + (y : Int) := by
            have e1 : (x : Int) * 2 ^ p = (y : Int) := by rw [← hy]; simp
            rw [e1, IntKind.wrap_u64, show (y : Int) % 18446744073709551616 = (y : Int) by omega, u64_or_nat t y (by omega) (by omega), ← hy, Nat.or_comm, Nat.mul_comm x, ← Nat.two_pow_add_eq_or_of_lt htp]
            omega
          have HV : Hid (val (q ++ [(t + y) % 4294967296]) + ((t + y) / 4294967296) * 4294967296 ^ (k + (j + 1)) = val (la.take (j + 1)) * 2 ^ n) := by
            show _ = _
            have h1 := snoc_step q (val (la.take j) * 2 ^ n) t y 0 (val (la.take j) * 2 ^ n + (y + 0) * 4294967296 ^ q.length) (4294967296 ^ q.length) rfl (by rw [hql.out]; exact hv.out) rfl
            rw [Nat.add_zero, Nat.add_zero, hql.out] at h1
            rw [show k + (j + 1) = k + j + 1 from rfl, Nat.pow_succ, h1, val_take_succ, Hx.out, ← hy, HP.out, Nat.pow_add]
            exact upStep _ _ _ _ _
          have htl : (t + y) / 4294967296 < 4294967296 := Nat.lt_of_lt_of_le hcl (by omega)
          have Hql : Hid (∀ n, (q ++ [n]).length = k + (j + 1)) := by intro n; have := hql.out; simp; omega
          clear hy hc2 hp31
          go_wp2_with (at_builtin; refine wpList_app32 rfl _ _ rfl q _ rfl _ ((t + y) % 4294967296) ?_ rfl hown hkp hql' ?_; rotate_left; intro v' w1' hown' hk')
          go_roundw
          case rel => exact ⟨j + 1, (t + y) / 4294967296, _, by omega, by go_num, by simp, htl, hcl, hown', Hql.out _, Lim_snoc hmq _ (by omega), HV, hk'⟩
          case measure => simp [intOf]; omega
          all_goals simp
        · have hke : j = la.length := by omega
          subst hke
          rw [List.take_of_length_le (Nat.le_refl _)] at hv
          have HF : Hid (val (q ++ [t]) = val la * 2 ^ n) := by
            show _ = _
            rw [val_append, hql.out, ← hv.out]
            simp [val, Nat.mul_comm]
          have Hl : Hid (q.length = k + la.length) := hql
          have ht2 : (t : Int) % 4294967296 = (t : Int) := by omega
          go_wp2_with (at_builtin; refine wpList_app32 rfl _ _ rfl q _ rfl _ t ?_ rfl hown hkp hql' ?_; rotate_left; intro v' w1' hown' hk')
          obtain ⟨vs5, cq5, rfl, hcq5, hrq5⟩ := hown'.shape
          have hN := norm_any vs5 cq5 (q ++ [t]) w1' hcq5 (by have := Hl.out; simp; omega) hrq5
          refine hN.mono ?_
          rintro e w5 ⟨rfl, rfl⟩
          go_wp2_with fail
          go_ret
          have hcut : ((q ++ [t]).take (nl (q ++ [t]))).length = nl (q ++ [t]) := by rw [List.length_take]; have := nl_le (q ++ [t]); omega
          refine ⟨_, rfl, ⟨vs5, cq5, (q ++ [t]).take (nl (q ++ [t])), by rw [hcut]; rfl, ?_, ?_, Lim_take (Lim_snoc hmq _ ht) _, Nrm_take _, by rw [val_take_nl]; exact HF.out⟩, hk'⟩
          · have := nl_le (q ++ [t]); omega
          · exact hrq5.take _
          · rfl
end Go.Proofs.YtgciimjcdhallaaDoor.Li
