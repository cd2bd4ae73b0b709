import Derived.Test.YtbjidpooociamaaDoorI1
import Derived.Test.YtbjidpooociamaaDoorC10
set_option linter.unusedVariables false
set_option linter.unusedSimpArgs false
namespace Go.Proofs.YtbjidpooociamaaDoor
open Go.RowKit Lb
theorem bitV_val (l : List Nat) (n : Nat) (hm : Lim l) (hn : n / 32 < l.length) : bitV l (n : Int) = decide (val l / 2 ^ n % 2 = 1) := by
  unfold bitV
  rw [if_pos ⟨by omega, by omega⟩]
  have e1 : ((n : Int) / 32).toNat = n / 32 := by omega
  have e2 : ((n : Int) % 32).toNat = n % 32 := by omega
  rw [e1, e2]
  have hx := Lim_getD hm (n / 32)
  have h1 := val_mod (l.drop (n / 32)) (Lim_drop hm _)
  have h4 : (l.drop (n / 32)).getD 0 0 = l.getD (n / 32) 0 := by simp [List.getD]
  rw [h4] at h1
  have h5 : val l / 2 ^ n = val (l.drop (n / 32)) / 2 ^ (n % 32) := by
    rw [val_drop l hm, Nat.div_div_eq_div_mul, show (4294967296 : Nat) = 2 ^ 32 from rfl, ← Nat.pow_mul, ← Nat.pow_add, show 32 * (n / 32) + n % 32 = n by omega]
  rw [h5]
  generalize l.getD (n / 32) 0 = x at *
  generalize val (l.drop (n / 32)) = V at *
  have hp : n % 32 < 32 := Nat.mod_lt _ (by omega)
  generalize n % 32 = p at *
  have h6 : V = x + 2 ^ p * (2 * (2 ^ (31 - p) * (V / 4294967296))) := by
    have h7 : 2 ^ p * (2 * (2 ^ (31 - p) * (V / 4294967296))) = 4294967296 * (V / 4294967296) := by
      rw [← Nat.mul_assoc, ← Nat.mul_assoc, show (2 : Nat) ^ p * 2 * 2 ^ (31 - p) = 4294967296 from by
        rw [← Nat.pow_succ, ← Nat.pow_add, show p + 1 + (31 - p) = 32 by omega]]
    rw [h7]
    omega
  have h8 : V / 2 ^ p % 2 = x / 2 ^ p % 2 := by
    rw [h6, Nat.add_mul_div_left _ _ (Nat.pos_of_ne_zero (by simp))]
    omega
  rw [h8]
  have h9 : ((x : Nat) : Int) / 2 ^ p = ((x / 2 ^ p : Nat) : Int) := by simp
  have hlt : x / 2 ^ p < 4294967296 := Nat.lt_of_le_of_lt (Nat.div_le_self _ _) hx
  have h10 := u32_and_nat (x / 2 ^ p) 1 hlt (by omega)
  rw [h9]
  have h11 : bits BinOp.and IntKind.u32 ((x / 2 ^ p : Nat) : Int) 1 = ((x / 2 ^ p % 2 : Nat) : Int) := by
    rw [Nat.and_one_is_mod] at h10
    exact h10
  rw [h11, Bool.eq_iff_iff]
  simp
  omega
theorem one_step (Xk Y x r q d r' : Nat) (hY : 0 < Y) (hx : Xk = Y * q + r) (hs : r * 4294967296 + x = Y * d + r') (hr : r' < Y) : (x + 4294967296 * Xk) / Y = d + 4294967296 * q ∧ (x + 4294967296 * Xk) % Y = r' := by
  have h : x + 4294967296 * Xk = r' + Y * (d + 4294967296 * q) := by
    rw [hx, Nat.mul_add, Nat.mul_add]
    have : 4294967296 * (Y * q) = Y * (4294967296 * q) := by rw [Nat.mul_left_comm]
    omega
  constructor
  · rw [h, Nat.add_mul_div_left _ _ hY, Nat.div_eq_of_lt hr, Nat.zero_add]
  · rw [h, Nat.add_mul_mod_self_left, Nat.mod_eq_of_lt hr]
theorem drop_cons_getD (l : List Nat) (k : Nat) (h : k < l.length) : l.drop k = l.getD k 0 :: l.drop (k + 1) := by
  rw [List.drop_eq_getElem_cons h]
  simp [List.getD, h]
theorem rep_set (k d : Nat) (qs : List Nat) : (List.replicate (k + 1) 0 ++ qs).set k d = List.replicate k 0 ++ (d :: qs) := by
  rw [List.replicate_succ', List.append_assoc, List.set_append_right _ _ (by simp)]
  simp
theorem val_rep_app (k : Nat) (qs : List Nat) : val (List.replicate k 0 ++ qs) = 4294967296 ^ k * val qs := by
  rw [val_append, List.length_replicate]
  have : val (List.replicate k 0) = 0 := val_zeros _ (by intro j; simp [List.getD, List.getElem?_replicate]; split <;> rfl)
  omega
set_option maxRecDepth 100000 in
set_option maxHeartbeats 400000 in
theorem rDivMod_nought (a b : Option Addr) (ca cb : Nat) (la lb : List Nat) (w : World) (hca : la.length ≤ ca) (hcb : lb.length ≤ cb) (hla : la.length ≤ 35184372088000) (hlb : lb.length ≤ 35184372088000) (hra : Rd w a la) (hrb : Rd w b lb) (hb0 : nl lb = 0) :
    Calls Tryd.prog 38 #[.slice a la.length ca, .slice b lb.length cb] w fun e w' => e = .returned (.tuple #[.slice none 0 0, .slice none 0 0, .int .i64 11]) ∧ Keep w w' := by
  go_enter Tryd.func38, Tryd.ntmps38
  go_wp2_with fail
  refine (rNorm_any a ca la w hca hla hra).mono ?_
  rintro e w1 ⟨v1, rfl, o1, k1⟩
  obtain ⟨a1, c1, rfl, hc1, r1⟩ := o1.shape
  have hN := rNorm_any b cb lb w1 hcb hlb (hrb.keep k1)
  rw [hb0, List.take_zero] at hN
  go_wp2_with fail
  refine hN.mono ?_
  rintro e w2 ⟨v2, rfl, o2, k2⟩
  obtain ⟨a2, c2, rfl, hc2, r2⟩ := o2.shape
  go_wp2_with fail
  go_ret3
  exact ⟨rfl, k1.trans k2⟩
end Go.Proofs.YtbjidpooociamaaDoor
