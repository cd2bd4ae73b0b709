import Derived.Test.YtinjikoocegooaaGreatDoorProg
import Derived.Test.YtinjikoocegooaaGreatDoorLC10
import Derived.Test.YtinjikoocegooaaGreatDoorShelf
import Derived.Test.YtinjikoocegooaaGreatDoorZLD6
import Derived.WalkKit
import Derived.WalkSpells
import Derived.WalkLawsBesides
import Derived.Laws.CopyOwn
import Derived.Deep.Draws
import Derived.Deep.QuietTactic
import Derived.BigQuiet
import Derived.Laws.MathBits
import Derived.Shelf.Small.Bits
import Derived.Laws.BytesArg
import Derived.Lib.OthersKept
import Derived.Deep.RegionWith
set_option linter.unusedVariables false
set_option linter.unusedSimpArgs false
namespace Go.Proofs.YtinjikoocegooaaGreatDoor.Li
open Go.RowKit Lb
set_option maxRecDepth 100000 in
set_option maxHeartbeats 400000 in
theorem moved_any (a : Option Addr) (ca n L : Nat) (la : List Nat) (w : World) (hn : n ≤ 1048576) (hL : L ≤ 70368744177664) (hfit : n / 32 + la.length ≤ L) (hroom : val la * 2 ^ n < 4294967296 ^ L) (hra : Rd w a la) (hma : Lim la) :
    Calls Tryz.prog 83 #[.slice a la.length ca, .int .i64 (n : Nat), .int .i64 (L : Nat)] w fun e w' => ∃ r, e = .returned (.slice (some ⟨w.heap.size, 0, none⟩) L L) ∧ Row w' w.heap.size r ∧ r.length = L ∧ Lim r ∧ val r = val la * 2 ^ n ∧ Keep w w' := by
  obtain ⟨W, hW⟩ : ∃ W, n / 32 = W := ⟨_, rfl⟩
  obtain ⟨p, hp⟩ : ∃ p, n % 32 = p := ⟨_, rfl⟩
  have hWi : (n : Int) / 32 = (W : Int) := by omega
  have hpi : (n : Int) % 32 = (p : Int) := by omega
  have hp32 : p < 32 := by omega
  go_enter Tryz.func83, Tryz.ntmps83
  go_wp2_with (at_make; refine wpList_make32 _ rfl _ _ rfl _ _ _ _ L rfl rfl rfl rfl hL ?_; intro w1 hrow hk hsz1)
  have hrp : n = 32 * W + p := by omega
  have hpow : 2 ^ n = 4294967296 ^ W * 2 ^ p := by rw [hrp, Nat.pow_add, Nat.pow_mul]
  have HP : Hid (2 ^ n = 4294967296 ^ W * 2 ^ p) := hpow
  have hWL : W + la.length ≤ L := by omega
  have HR : Hid (val la * 2 ^ n < 4294967296 ^ L) := hroom
  clear hpow hrp hW hp hfit hroom
  go_loopw [10, 20] (fun c i wr => ∃ (k t : Nat) (rk : List Nat), k ≤ la.length ∧ i = .int .i64 k ∧ c = .int .u64 t ∧ t < 4294967296 ∧ Hid (t < 2 ^ p) ∧ Row wr w.heap.size rk ∧ Hid (rk.length = L) ∧ Lim rk ∧ Hid (rk.drop (W + k) = List.replicate (L - (W + k)) 0) ∧ Hid (val rk + t * 4294967296 ^ (W + k) = val (la.take k) * 2 ^ n) ∧ Keep w wr) (fun _ i _ => la.length - (intOf i).toNat)
  case atStart => exact ⟨0, 0, _, by omega, rfl, rfl, by omega, Nat.pos_of_ne_zero (by simp), hrow, by show _ = _; simp, by intro x hx; simp at hx; omega, by show _ = _; simp, by show _ = _; rw [val_rep]; simp [val], hk⟩
  case round =>
    obtain ⟨k, t, rk, hk, rfl, rfl, ht, htp, hrk, hlen, hmk, hdr, hv, hkp⟩ := hrel
    have hz : ∀ j, W + k ≤ j → rk.getD j 0 = 0 := by
      intro j hj
      have h1 : (rk.drop (W + k)).getD (j - (W + k)) 0 = 0 := by rw [hdr.out]; simp [List.getD, List.getElem?_replicate]; split <;> rfl
      simp only [List.getD, List.getElem?_drop] at h1
      rw [show W + k + (j - (W + k)) = j by omega] at h1
      exact h1
    by_cases hkl : k < la.length
    · obtain ⟨b1, o1, rfl, hx1⟩ := (hra.keep hkp) k hkl
      obtain ⟨x, hx⟩ : ∃ x, la.getD k 0 = x := ⟨_, rfl⟩
      have hxl : x < 4294967296 := hx ▸ Lim_getD hma _
      rw [hx] at hx1
      have Hx : Hid (la.getD k 0 = x) := hx; clear hx
      have hc := hrk.cell (W + k) (by rw [hlen.out]; omega)
      rw [hz (W + k) (Nat.le_refl _)] at hc
      have hfz := hrk.frozen (W + k)
      have Hz : Hid (rk.getD (W + k) 0 = 0) := hz (W + k) (Nat.le_refl _)
      obtain ⟨y, hy⟩ : ∃ y, x * 2 ^ p = y := ⟨_, rfl⟩
      have hp31 : 2 ^ p ≤ 2147483648 := Nat.le_trans (Nat.pow_le_pow_right (by omega) (show p ≤ 31 by omega)) (by decide)
      have hyl : y < 9223372036854775808 := by
        rw [← hy]
        exact Nat.lt_of_lt_of_le (Nat.mul_lt_mul_of_lt_of_le hxl hp31 (by omega)) (by decide)
      have hc2 : t + y < 2 ^ p * 4294967296 := by
        rw [← hy]
        have h1 : t < 2 ^ p := htp
        have h2 := Nat.mul_le_mul_right (2 ^ p) (show x ≤ 4294967295 by omega)
        omega
      have hcl : Hid ((t + y) / 4294967296 < 2 ^ p) := by
        show _ < _
        rw [Nat.div_lt_iff_lt_mul (by omega)]; exact hc2
      have hor : bits BinOp.or IntKind.u64 (t : Int) (IntKind.u64.wrap ((x : Int) * 2 ^ p)) = (t : Int) + (y : Int) := by
        have e1 : (x : Int) * 2 ^ p = (y : Int) := by rw [← hy]; simp
        rw [e1, IntKind.wrap_u64, show (y : Int) % 18446744073709551616 = (y : Int) by omega, u64_or_nat t y (by omega) (by omega), ← hy, Nat.mul_comm x, Nat.or_comm, ← Nat.two_pow_add_eq_or_of_lt htp]
        omega
      have HV : Hid (val (rk.set (W + k) ((t + (0 + y)) % 4294967296)) + ((t + (0 + y)) / 4294967296) * 4294967296 ^ (W + (k + 1)) = val (la.take (k + 1)) * 2 ^ n) := by
        show _ = _
        have h1 := addStep rk (W + k) t 0 y _ (by rw [hlen.out]; omega) Hz.out hv.out
        rw [show W + (k + 1) = W + k + 1 from rfl, h1, val_take_succ, Hx.out, ← hy, HP.out, Nat.pow_add]
        grind
      have htl : (t + y) / 4294967296 < 4294967296 := Nat.lt_of_lt_of_le hcl (by omega)
      clear hy hz hc2 hp31
      rw [Nat.zero_add] at HV
      go_wp2
      go_roundw
      case rel =>
        refine ⟨k + 1, (t + y) / 4294967296, rk.set (W + k) ((t + y) % 4294967296), by omega, by go_num, by simp, htl, hcl, ?_, ?_, Lim_set hmk _ _ (by omega), ?_, HV, hkp.setCell (Nat.le_refl _) _⟩
        · have h1 := hrk.set (W + k) ((t + y) % 4294967296); simpa using h1
        · show _ = _
          rw [List.length_set]; exact hlen.out
        · show _ = _
          rw [List.drop_set_of_lt (by omega), show W + (k + 1) = W + k + 1 from rfl, ← List.drop_drop, hdr.out]
          simp
          omega
      case measure => simp [intOf]; omega
    · have hke : k = la.length := by omega
      subst hke
      rw [List.take_of_length_le (Nat.le_refl _)] at hv
      by_cases ht0 : 0 < t
      · have hlt : W + la.length < L := by
          rcases Nat.lt_or_ge (W + la.length) L with h | h
          · exact h
          · exfalso
            have h1 : 4294967296 ^ L ≤ 4294967296 ^ (W + la.length) := Nat.pow_le_pow_right (by omega) h
            have h2 : 4294967296 ^ (W + la.length) ≤ t * 4294967296 ^ (W + la.length) := Nat.le_mul_of_pos_left _ ht0
            have h3 := hv.out
            have h4 : val la * 2 ^ n < 4294967296 ^ L := HR
            omega
        have hc := hrk.cell (W + la.length) (by rw [hlen.out]; omega)
        have hz0 := hz (W + la.length) (Nat.le_refl _)
        rw [hz0] at hc
        have hfz := hrk.frozen (W + la.length)
        have HV : Hid (val (rk.set (W + la.length) t) = val la * 2 ^ n) := by
          show _ = _
          have h1 := val_set rk (W + la.length) t (by rw [hlen.out]; omega)
          rw [hz0] at h1
          have h3 := hv.out
          omega
        clear hz hz0
        go_wp2
        go_ret
        exact ⟨rk.set (W + la.length) t, rfl, by have h1 := hrk.set (W + la.length) t; simpa using h1, by rw [List.length_set]; exact hlen.out, Lim_set hmk _ _ ht, HV.out, hkp.setCell (Nat.le_refl _) _⟩
      · have HV : Hid (val rk = val la * 2 ^ n) := by
          show _ = _
          have h3 := hv.out
          rw [show t = 0 by omega] at h3
          omega
        clear hz
        go_wp2
        go_ret
        exact ⟨rk, rfl, hrk, hlen.out, hmk, HV.out, hkp⟩
end Go.Proofs.YtinjikoocegooaaGreatDoor.Li
set_option linter.unusedVariables false
set_option linter.unusedSimpArgs false
namespace Go.Proofs.YtinjikoocegooaaGreatDoor.Li
open Go.RowKit Lb
/-- Each limb and the next, by 2^p. -/
def shr (p : Nat) : List Nat → List Nat
  | [] => []
  | x :: xs => (x + 4294967296 * xs.getD 0 0) / 2 ^ p % 4294967296 :: shr p xs
theorem shr_length (p : Nat) : ∀ l, (shr p l).length = l.length
  | [] => rfl
  | _ :: xs => by simp [shr, shr_length p xs]
theorem shr_get (p : Nat) : ∀ (l : List Nat) (k : Nat), k < l.length → (shr p l).getD k 0 = (l.getD k 0 + 4294967296 * l.getD (k + 1) 0) / 2 ^ p % 4294967296
  | [], k, h => by simp at h
  | x :: xs, 0, _ => by simp [shr]
  | x :: xs, k + 1, h => by
    have := shr_get p xs k (by simpa using h)
    simp only [shr, List.getD_cons_succ]
    exact this
theorem shr_lim (p : Nat) (l : List Nat) : Lim (shr p l) := by
  induction l with
  | nil => intro x hx; simp [shr] at hx
  | cons y ys ih =>
    intro x hx
    simp only [shr, List.mem_cons] at hx
    rcases hx with rfl | hx
    · exact Nat.mod_lt _ (by omega)
    · exact ih x hx
theorem shr_val (p : Nat) (hp : p < 32) : ∀ l, Lim l → val (shr p l) = val l / 2 ^ p
  | [], _ => by simp [shr, val]
  | x :: xs, hl => by
    have ih := shr_val p hp xs (fun y hy => hl y (by simp [hy]))
    have hx : x < 4294967296 := hl x (by simp)
    obtain ⟨D, hD⟩ : ∃ D, 2 ^ p = D := ⟨_, rfl⟩
    obtain ⟨E, hE⟩ : ∃ E, 2 ^ (32 - p) = E := ⟨_, rfl⟩
    have hDE : D * E = 4294967296 := by rw [← hD, ← hE, ← Nat.pow_add, show p + (32 - p) = 32 by omega]
    have hD0 : 0 < D := by rw [← hD]; exact Nat.pos_of_ne_zero (by simp)
    simp only [shr, val, ih, hD]
    have hv0 : val xs % D = xs.getD 0 0 % D := by
      cases xs with
      | nil => simp [val]
      | cons y ys =>
        simp only [val, List.getD_cons_zero]
        rw [← hDE, Nat.mul_assoc, Nat.add_mul_mod_self_left]
    generalize xs.getD 0 0 = v0 at *
    generalize val xs = V at *
    have hxd : x / D < E := by rw [Nat.div_lt_iff_lt_mul hD0, Nat.mul_comm, hDE]; exact hx
    have e1 : (x + 4294967296 * V) / D = x / D + E * V := by
      rw [← hDE, Nat.mul_assoc, Nat.add_mul_div_left _ _ hD0]
    have e2 : (x + 4294967296 * v0) / D = x / D + E * v0 := by
      rw [← hDE, Nat.mul_assoc, Nat.add_mul_div_left _ _ hD0]
    rw [e1, e2]
    have m1 := Nat.div_add_mod V D
    have m2 := Nat.div_add_mod v0 D
    have hr : v0 % D < D := Nat.mod_lt _ hD0
    have k1 : E * V = 4294967296 * (V / D) + E * (V % D) := by
      rw [← hDE]
      have := congrArg (E * ·) m1
      simp only [Nat.mul_add] at this
      rw [← this]
      grind
    have k2 : E * v0 = 4294967296 * (v0 / D) + E * (v0 % D) := by
      rw [← hDE]
      have := congrArg (E * ·) m2
      simp only [Nat.mul_add] at this
      rw [← this]
      grind
    have hlow : x / D + E * (v0 % D) < 4294967296 := by
      have h1 := Nat.mul_le_mul_left E (show v0 % D + 1 ≤ D from hr)
      rw [Nat.mul_add, Nat.mul_comm E D, hDE] at h1
      omega
    rw [k1, k2, hv0]
    have : x / D + (4294967296 * (v0 / D) + E * (v0 % D)) = (x / D + E * (v0 % D)) + 4294967296 * (v0 / D) := by omega
    rw [this, Nat.add_mul_mod_self_left, Nat.mod_eq_of_lt hlow]
    omega
end Go.Proofs.YtinjikoocegooaaGreatDoor.Li
set_option linter.unusedVariables false
set_option linter.unusedSimpArgs false
namespace Go.Proofs.YtinjikoocegooaaGreatDoor.Li
open Go.RowKit Lb
theorem val_drop (l : List Nat) (hm : Lim l) (n : Nat) : val (l.drop n) = val l / 4294967296 ^ n := by
  by_cases h : n ≤ l.length
  · have h1 : val l = val (l.take n) + 4294967296 ^ n * val (l.drop n) := by
      have := val_append (l.take n) (l.drop n)
      rw [List.take_append_drop] at this
      rw [this, List.length_take, Nat.min_eq_left h]
    have h2 := val_lt (Lim_take hm n)
    rw [List.length_take, Nat.min_eq_left h] at h2
    rw [h1, Nat.add_mul_div_left _ _ (Nat.pos_of_ne_zero (by simp)), Nat.div_eq_of_lt h2, Nat.zero_add]
  · rw [List.drop_eq_nil_of_le (by omega)]
    have h2 := val_lt hm
    have h3 : 4294967296 ^ l.length ≤ 4294967296 ^ n := Nat.pow_le_pow_right (by omega) (by omega)
    rw [Nat.div_eq_of_lt (by omega)]; rfl
theorem low_val (l : List Nat) (hm : Lim l) (n : Nat) : val (shr (n % 32) (l.drop (n / 32))) = val l / 2 ^ n := by
  rw [shr_val _ (Nat.mod_lt _ (by omega)) _ (Lim_drop hm _), val_drop l hm, Nat.div_div_eq_div_mul]
  congr 1
  rw [show (4294967296 : Nat) = 2 ^ 32 from rfl, ← Nat.pow_mul, ← Nat.pow_add]
  congr 1
  omega
set_option maxRecDepth 100000 in
set_option maxHeartbeats 400000 in
theorem lowered_any (a : Option Addr) (ca n : Nat) (la : List Nat) (w : World) (hca : la.length ≤ ca) (hla : la.length ≤ 70368744177664) (hn : n ≤ 4503599627370496) (hra : Rd w a la) (hma : Lim la) :
    Calls Tryz.prog 85 #[.slice a la.length ca, .int .i64 (n : Nat)] w fun e w' => ∃ v, e = .returned v ∧ NatR w.heap.size w' v (val la / 2 ^ n) ∧ Keep w w' := by
  have HV : Hid (val (shr (n % 32) (la.drop (n / 32))) = val la / 2 ^ n) := low_val la hma n
  obtain ⟨W, hW⟩ : ∃ W, n / 32 = W := ⟨_, rfl⟩
  obtain ⟨p, hp⟩ : ∃ p, n % 32 = p := ⟨_, rfl⟩
  have hWi : (n : Int) / 32 = (W : Int) := by omega
  have hpi : (n : Int) % 32 = (p : Int) := by omega
  have hp32 : p < 32 := by omega
  rw [hW, hp] at HV
  clear hW hp
  by_cases hbig : la.length ≤ W
  · go_enter Tryz.func85, Tryz.ntmps85
    go_wp2_with fail
    go_ret
    refine ⟨_, rfl, ⟨[], .inl ⟨rfl, rfl⟩, by intro x hx; simp at hx, by simp [Nrm], ?_⟩, Keep.refl _⟩
    have h := HV.out
    rw [List.drop_eq_nil_of_le hbig] at h
    exact h
  · have hdl : (la.drop W).length = la.length - W := by simp
    have hmd := Lim_drop hma W
    obtain ⟨b, o, rfl, -⟩ := hra 0 (by omega)
    have hrd := hra.drop W
    have hsl := fun wx => slice32_from wx b o (o + W) la.length ca W (by omega) (.inr ⟨by omega, rfl⟩)
    generalize la.drop W = d at *
    have hF := fresh_any (some ⟨b, o + W, none⟩) (ca - W) d w (by omega) hrd
    rw [hdl] at hF
    go_enter Tryz.func85, Tryz.ntmps85
    go_wp2_with fail
    refine hF.mono ?_
    rintro e w1 ⟨rfl, hrow, hk, -⟩
    clear hF hsl
    obtain ⟨D, hD⟩ : ∃ D, la.length - W = D := ⟨_, rfl⟩
    rw [hD] at hdl ⊢
    have Hdl : Hid (d.length = D) := hdl
    have hDb : D ≤ 70368744177664 := by omega
    clear hD hdl hbig hrd hra hca
    go_wp2_with fail
    go_loopw [24] (fun i wr => ∃ (k : Nat) (rk : List Nat), k ≤ D ∧ i = .int .i64 k ∧ Row wr w.heap.size rk ∧ Hid (rk.length = D) ∧ Hid (rk = (shr p d).take k ++ d.drop k) ∧ Keep w wr) (fun i _ => D - (intOf i).toNat)
    case atStart => exact ⟨0, d, by omega, rfl, hrow, Hdl, by show _ = _; simp, hk⟩
    case round =>
      obtain ⟨k, rk, hkk, rfl, hrk, hlen, hrk2, hkp⟩ := hrel
      by_cases hkl : k < D
      · obtain ⟨x, hx⟩ : ∃ x, d.getD k 0 = x := ⟨_, rfl⟩
        obtain ⟨z, hz⟩ : ∃ z, d.getD (k + 1) 0 = z := ⟨_, rfl⟩
        have hxl : x < 4294967296 := hx ▸ Lim_getD hmd _
        have hzl : z < 4294967296 := hz ▸ Lim_getD hmd _
        have hg : ∀ j, k ≤ j → rk.getD j 0 = d.getD j 0 := by
          intro j hj
          have e : ((shr p d).take k).length = k := by rw [List.length_take, shr_length, Hdl.out]; omega
          rw [hrk2.out]
          simp only [List.getD, List.getElem?_append, e, if_neg (show ¬ j < k by omega), List.getElem?_drop]
          rw [show k + (j - k) = j by omega]
        have hc1 := hrk.cell k (by rw [hlen.out]; omega)
        rw [hg k (Nat.le_refl _), hx] at hc1
        have hfz := hrk.frozen k
        have hset : ∀ y, y = (x + 4294967296 * z) / 2 ^ p % 4294967296 → rk.set k y = (shr p d).take (k + 1) ++ d.drop (k + 1) := by
          intro y hy
          rw [← hx, ← hz, ← shr_get p d k (by rw [Hdl.out]; omega)] at hy
          have e : ((shr p d).take k).length = k := by rw [List.length_take, shr_length, Hdl.out]; omega
          rw [hrk2.out, List.set_append_right _ _ (by omega), e, Nat.sub_self, take_snoc _ k (by rw [shr_length, Hdl.out]; omega), hy]
          rw [List.drop_eq_getElem_cons (show k < d.length by rw [Hdl.out]; omega), List.set_cons_zero, List.append_assoc]
          rfl
        have HS : Hid (∀ y, y = (x + 4294967296 * z) / 2 ^ p % 4294967296 → rk.set k y = (shr p d).take (k + 1) ++ d.drop (k + 1)) := hset
        by_cases hk1 : k + 1 < D
        · have hc2 := hrk.cell (k + 1) (by rw [hlen.out]; omega)
          rw [hg _ (by omega), hz] at hc2
          have hor := or64 z x hzl hxl
          clear hx hz hg hset
          go_wp2_with fail
          go_roundw
          case rel =>
            refine ⟨k + 1, rk.set k ((x + z * 4294967296) / 2 ^ p % 4294967296), by omega, by go_num, ?_, by show _ = _; rw [List.length_set]; exact hlen.out, HS.out _ (by rw [Nat.mul_comm z]), hkp.setCell (Nat.le_refl _) _⟩
            have h1 := hrk.set k ((x + z * 4294967296) / 2 ^ p % 4294967296)
            simpa using h1
          case measure => simp [intOf]; omega
        · have hz0 : z = 0 := by rw [← hz]; exact getD_past d _ (by rw [Hdl.out]; omega)
          have hd1 : decide ((k : Int) + 1 < (D : Int)) = false := by simp; omega
          clear hx hz hg hset
          go_wp2_with fail
          go_roundw
          case rel =>
            refine ⟨k + 1, rk.set k (x / 2 ^ p % 4294967296), by omega, by go_num, ?_, by show _ = _; rw [List.length_set]; exact hlen.out, HS.out _ (by rw [hz0, Nat.mul_zero, Nat.add_zero]), hkp.setCell (Nat.le_refl _) _⟩
            have h1 := hrk.set k (x / 2 ^ p % 4294967296)
            simpa using h1
          case measure => simp [intOf]; omega
      · have hT := trim_any (some ⟨w.heap.size, 0, none⟩) D rk wr (by have := hlen.out; omega) (by have := hlen.out; omega) hrk.rd0
        rw [hlen.out] at hT
        have hke : k = D := by omega
        go_wp2_with fail
        refine hT.mono ?_
        rintro e w2 ⟨rfl, rfl⟩
        go_wp2_with fail
        go_ret
        have hr : rk = shr p d := by
          rw [hrk2.out, List.take_of_length_le (by rw [shr_length, Hdl.out]; omega), List.drop_eq_nil_of_le (by rw [Hdl.out]; omega), List.append_nil]
        have h3 := NatR.of_trim (hrk.res (B := w.heap.size) (Nat.le_refl _)) (by rw [hr]; exact shr_lim _ _)
        rw [hlen.out] at h3
        refine ⟨_, rfl, ?_, hkp⟩
        rw [← HV.out, ← hr]
        exact h3
end Go.Proofs.YtinjikoocegooaaGreatDoor.Li
