import Derived.Test.YtagfkmbljkglpaaProg
import Derived.Test.YtagfkmbljkglpaaLD5
import Derived.WalkKit
import Derived.WalkSpells
import Derived.WalkLawsBesides
import Derived.Laws.CopyOwn
import Derived.Deep.Draws
import Derived.Deep.QuietTactic
import Derived.BigQuiet
import Derived.Laws.MathBits
import Derived.Shelf.Small.Bits
import Derived.Shelf.Strconv.Itoa0
import Derived.Shelf.Bits.Mul64
import Derived.Laws.BytesArg
import Derived.Lib.OthersKept
import Derived.Deep.RegionWith
set_option linter.unusedVariables false
set_option linter.unusedSimpArgs false
namespace Go.Proofs.Ytagfkmbljkglpaa
open Go.RowKit Lb
set_option maxRecDepth 100000 in
set_option maxHeartbeats 400000 in
theorem moved_any (a : Option Addr) (ca n L : Nat) (la : List Nat) (w : World) (hn : n ≤ 1048576) (hL : L ≤ 70368744177664) (hfit : n / 32 + la.length ≤ L) (hroom : val la * 2 ^ n < 4294967296 ^ L) (hra : Rd w a la) (hma : Lim la) :
    Calls Try.prog 34 #[.slice a la.length ca, .int .i64 (n : Nat), .int .i64 (L : Nat)] w fun e w' => ∃ r, e = .returned (.slice (some ⟨w.heap.size, 0, none⟩) L L) ∧ Row w' w.heap.size r ∧ r.length = L ∧ Lim r ∧ val r = val la * 2 ^ n ∧ Keep w w' := by
  obtain ⟨W, hW⟩ : ∃ W, n / 32 = W := ⟨_, rfl⟩
  obtain ⟨p, hp⟩ : ∃ p, n % 32 = p := ⟨_, rfl⟩
  have hWi : (n : Int) / 32 = (W : Int) := by omega
  have hpi : (n : Int) % 32 = (p : Int) := by omega
  have hp32 : p < 32 := by omega
  go_enter Try.func34, Try.ntmps34
  go_wp2_with (at_make; refine wpList_make32 _ rfl _ _ rfl _ _ _ _ L rfl rfl rfl rfl hL ?_; intro w1 hrow hk hsz1)
  have hrp : n = 32 * W + p := by omega
  have hpow : 2 ^ n = 4294967296 ^ W * 2 ^ p := by rw [hrp, Nat.pow_add, Nat.pow_mul]
  have HP : Hid (2 ^ n = 4294967296 ^ W * 2 ^ p) := hpow
  have hWL : W + la.length ≤ L := by omega
  have HR : Hid (val la * 2 ^ n < 4294967296 ^ L) := hroom
  clear hpow hrp hW hp hfit hroom
  go_loopw [10, 20] (fun c i wr => ∃ (k t : Nat) (rk : List Nat), k ≤ la.length ∧ i = .int .i64 k ∧ c = .int .u64 t ∧ t < 4294967296 ∧ Hid (t < 2 ^ p) ∧ Row wr w.heap.size rk ∧ Hid (rk.length = L) ∧ Lim rk ∧ Hid (rk.drop (W + k) = List.replicate (L - (W + k)) 0) ∧ Hid (val rk + t * 4294967296 ^ (W + k) = val (la.take k) * 2 ^ n) ∧ Keep w wr) (fun _ i _ => la.length - (intOf i).toNat)
  case atStart => exact ⟨0, 0, _, by omega, rfl, rfl, by omega, Nat.pos_of_ne_zero (by simp), hrow, by show _ = _; simp, by intro x hx; simp at hx; omega, by show _ = _; simp, by show _ = _; rw [val_rep]; simp [val], hk⟩
  case round =>
    obtain ⟨k, t, rk, hk, rfl, rfl, ht, htp, hrk, hlen, hmk, hdr, hv, hkp⟩ := hrel
    have hz : ∀ j, W + k ≤ j → rk.getD j 0 = 0 := by
      intro j hj
      have h1 : (rk.drop (W + k)).getD (j - (W + k)) 0 = 0 := by rw [hdr.out]; simp [List.getD, List.getElem?_replicate]; split <;> rfl
      simp only [List.getD, List.getElem?_drop] at h1
      rw [show W + k + (j - (W + k)) = j by omega] at h1
      exact h1
    by_cases hkl : k < la.length
    · obtain ⟨b1, o1, rfl, hx1⟩ := (hra.keep hkp) k hkl
      obtain ⟨x, hx⟩ : ∃ x, la.getD k 0 = x := ⟨_, rfl⟩
      have hxl : x < 4294967296 := hx ▸ Lim_getD hma _
      rw [hx] at hx1
      have Hx : Hid (la.getD k 0 = x) := hx; clear hx
      have hc := hrk.cell (W + k) (by rw [hlen.out]; omega)
      rw [hz (W + k) (Nat.le_refl _)] at hc
      have hfz := hrk.frozen (W + k)
      have Hz : Hid (rk.getD (W + k) 0 = 0) := hz (W + k) (Nat.le_refl _)
      obtain ⟨y, hy⟩ : ∃ y, x * 2 ^ p = y := ⟨_, rfl⟩
      have hp31 : 2 ^ p ≤ 2147483648 := Nat.le_trans (Nat.pow_le_pow_right (by omega) (show p ≤ 31 by omega)) (by decide)
      have hyl : y < 9223372036854775808 := by
        rw [← hy]
        exact Nat.lt_of_lt_of_le (Nat.mul_lt_mul_of_lt_of_le hxl hp31 (by omega)) (by decide)
      have hc2 : t + y < 2 ^ p * 4294967296 := by
        rw [← hy]
        have h1 : t < 2 ^ p := htp
        have h2 := Nat.mul_le_mul_right (2 ^ p) (show x ≤ 4294967295 by omega)
        omega
      have hcl : Hid ((t + y) / 4294967296 < 2 ^ p) := by
        show _ < _
        rw [Nat.div_lt_iff_lt_mul (by omega)]; exact hc2
      have hor : bits BinOp.or IntKind.u64 (t : Int) (IntKind.u64.wrap ((x : Int) * 2 ^ p)) = (t : Int) + (y : Int) := by
        have e1 : (x : Int) * 2 ^ p = (y : Int) := by rw [← hy]; simp
        rw [e1, IntKind.wrap_u64, show (y : Int) % 18446744073709551616 = (y : Int) by omega, u64_or_nat t y (by omega) (by omega), ← hy, Nat.mul_comm x, Nat.or_comm, ← Nat.two_pow_add_eq_or_of_lt htp]
        omega
      have HV : Hid (val (rk.set (W + k) ((t + (0 + y)) % 4294967296)) + ((t + (0 + y)) / 4294967296) * 4294967296 ^ (W + (k + 1)) = val (la.take (k + 1)) * 2 ^ n) := by
        show _ = _
        have h1 := addStep rk (W + k) t 0 y _ (by rw [hlen.out]; omega) Hz.out hv.out
        rw [show W + (k + 1) = W + k + 1 from rfl, h1, val_take_succ, Hx.out, ← hy, HP.out, Nat.pow_add]
        grind
      have htl : (t + y) / 4294967296 < 4294967296 := Nat.lt_of_lt_of_le hcl (by omega)
      clear hy hz hc2 hp31
      rw [Nat.zero_add] at HV
      go_wp2
      go_roundw
      case rel =>
        refine ⟨k + 1, (t + y) / 4294967296, rk.set (W + k) ((t + y) % 4294967296), by omega, by go_num, by simp, htl, hcl, ?_, ?_, Lim_set hmk _ _ (by omega), ?_, HV, hkp.setCell (Nat.le_refl _) _⟩
        · have h1 := hrk.set (W + k) ((t + y) % 4294967296); simpa using h1
        · show _ = _
          rw [List.length_set]; exact hlen.out
        · show _ = _
          rw [List.drop_set_of_lt (by omega), show W + (k + 1) = W + k + 1 from rfl, ← List.drop_drop, hdr.out]
          simp
          omega
      case measure => simp [intOf]; omega
    · have hke : k = la.length := by omega
      subst hke
      rw [List.take_of_length_le (Nat.le_refl _)] at hv
      by_cases ht0 : 0 < t
      · have hlt : W + la.length < L := by
          rcases Nat.lt_or_ge (W + la.length) L with h | h
          · exact h
          · exfalso
            have h1 : 4294967296 ^ L ≤ 4294967296 ^ (W + la.length) := Nat.pow_le_pow_right (by omega) h
            have h2 : 4294967296 ^ (W + la.length) ≤ t * 4294967296 ^ (W + la.length) := Nat.le_mul_of_pos_left _ ht0
            have h3 := hv.out
            have h4 : val la * 2 ^ n < 4294967296 ^ L := HR
            omega
        have hc := hrk.cell (W + la.length) (by rw [hlen.out]; omega)
        have hz0 := hz (W + la.length) (Nat.le_refl _)
        rw [hz0] at hc
        have hfz := hrk.frozen (W + la.length)
        have HV : Hid (val (rk.set (W + la.length) t) = val la * 2 ^ n) := by
          show _ = _
          have h1 := val_set rk (W + la.length) t (by rw [hlen.out]; omega)
          rw [hz0] at h1
          have h3 := hv.out
          omega
        clear hz hz0
        go_wp2
        go_ret
        exact ⟨rk.set (W + la.length) t, rfl, by have h1 := hrk.set (W + la.length) t; simpa using h1, by rw [List.length_set]; exact hlen.out, Lim_set hmk _ _ ht, HV.out, hkp.setCell (Nat.le_refl _) _⟩
      · have HV : Hid (val rk = val la * 2 ^ n) := by
          show _ = _
          have h3 := hv.out
          rw [show t = 0 by omega] at h3
          omega
        clear hz
        go_wp2
        go_ret
        exact ⟨rk, rfl, hrk, hlen.out, hmk, HV.out, hkp⟩
end Go.Proofs.Ytagfkmbljkglpaa
