import Derived.Test.YtagfkmbljkglpaaProg
import Derived.Test.YtagfkmbljkglpaaLE1
import Derived.WalkKit
import Derived.WalkSpells
import Derived.WalkLawsBesides
import Derived.Laws.CopyOwn
import Derived.Deep.Draws
import Derived.Deep.QuietTactic
import Derived.BigQuiet
import Derived.Laws.MathBits
import Derived.Shelf.Small.Bits
import Derived.Shelf.Strconv.Itoa0
import Derived.Shelf.Bits.Mul64
import Derived.Laws.BytesArg
import Derived.Lib.OthersKept
import Derived.Deep.RegionWith
set_option linter.unusedVariables false
set_option linter.unusedSimpArgs false
namespace Go.Proofs.Ytagfkmbljkglpaa
open Go.RowKit Lb
set_option maxRecDepth 100000 in
set_option maxHeartbeats 400000 in
theorem Up_any (a : Option Addr) (ca n : Nat) (la : List Nat) (w : World) (hca : la.length ≤ ca) (hla : la.length ≤ 35184372088832) (hn : n ≤ 1048576) (hra : Rd w a la) (hma : Lim la) :
    Calls Try.prog 30 #[.slice a la.length ca, .int .i64 (n : Nat)] w fun e w' => ∃ v, e = .returned (.tuple #[v, .int .i64 0]) ∧ NatR w.heap.size w' v (val la * 2 ^ n) ∧ Keep w w' := by
  have h1 := nl_le la
  have e1 : (la.take (nl la)).length = nl la := by simp; omega
  have t1 := trim_any a ca la w hca (by omega) hra
  have hv := val_lt (Lim_take hma (nl la))
  rw [e1] at hv
  have hroom : val (la.take (nl la)) * 2 ^ n < 4294967296 ^ (nl la + n / 32 + 1) := by
    have h2 : 2 ^ n ≤ 4294967296 ^ (n / 32 + 1) := by
      rw [show (4294967296 : Nat) = 2 ^ 32 from rfl, ← Nat.pow_mul]
      exact Nat.pow_le_pow_right (by omega) (by omega)
    rw [Nat.add_assoc, Nat.pow_add]
    exact Nat.mul_lt_mul_of_lt_of_le hv h2 (Nat.pos_of_ne_zero (by simp))
  have hM := moved_any a ca n (nl la + n / 32 + 1) (la.take (nl la)) w hn (by omega) (by omega) hroom (hra.take _) (Lim_take hma _)
  rw [e1, val_take_nl] at hM
  obtain ⟨L, hL⟩ : ∃ L, nl la + n / 32 + 1 = L := ⟨_, rfl⟩
  rw [hL] at hM
  have hLi : (nl la : Int) + (n : Int) / 32 + 1 = (L : Int) := by omega
  have hLb : L ≤ 70368744177664 := by omega
  have hni : ¬ (n : Int) < 0 := by omega
  have hni2 : ¬ (1048576 : Int) < (n : Int) := by omega
  clear hL hroom hv
  go_enter Try.func30, Try.ntmps30
  go_wp2_with fail
  refine t1.mono ?_
  rintro e w1 ⟨rfl, rfl⟩
  go_wp2_with fail
  refine hM.mono ?_
  rintro e w2 ⟨r, rfl, hr2, hl2, hm2, hv2, hk2⟩
  have t2 := trim_any (some ⟨w1.heap.size, 0, none⟩) r.length r w2 (Nat.le_refl _) (by omega) hr2.rd0
  rw [hl2] at t2
  go_wp2_with fail
  refine t2.mono ?_
  rintro e w3 ⟨rfl, rfl⟩
  go_wp2
  go_ret2
  refine ⟨_, rfl, ?_, hk2⟩
  have h3 := NatR.of_trim (hr2.res (B := w1.heap.size) (Nat.le_refl _)) hm2
  rw [hl2, hv2] at h3
  exact h3
/-- Each limb and the next, by 2^p. -/
def shr (p : Nat) : List Nat → List Nat
  | [] => []
  | x :: xs => (x + 4294967296 * xs.getD 0 0) / 2 ^ p % 4294967296 :: shr p xs
theorem shr_length (p : Nat) : ∀ l, (shr p l).length = l.length
  | [] => rfl
  | _ :: xs => by simp [shr, shr_length p xs]
theorem shr_get (p : Nat) : ∀ (l : List Nat) (k : Nat), k < l.length → (shr p l).getD k 0 = (l.getD k 0 + 4294967296 * l.getD (k + 1) 0) / 2 ^ p % 4294967296
  | [], k, h => by simp at h
  | x :: xs, 0, _ => by simp [shr]
  | x :: xs, k + 1, h => by
    have := shr_get p xs k (by simpa using h)
    simp only [shr, List.getD_cons_succ]
    exact this
theorem shr_lim (p : Nat) (l : List Nat) : Lim (shr p l) := by
  induction l with
  | nil => intro x hx; simp [shr] at hx
  | cons y ys ih =>
    intro x hx
    simp only [shr, List.mem_cons] at hx
    rcases hx with rfl | hx
    · exact Nat.mod_lt _ (by omega)
    · exact ih x hx
theorem shr_val (p : Nat) (hp : p < 32) : ∀ l, Lim l → val (shr p l) = val l / 2 ^ p
  | [], _ => by simp [shr, val]
  | x :: xs, hl => by
    have ih := shr_val p hp xs (fun y hy => hl y (by simp [hy]))
    have hx : x < 4294967296 := hl x (by simp)
    obtain ⟨D, hD⟩ : ∃ D, 2 ^ p = D := ⟨_, rfl⟩
    obtain ⟨E, hE⟩ : ∃ E, 2 ^ (32 - p) = E := ⟨_, rfl⟩
    have hDE : D * E = 4294967296 := by rw [← hD, ← hE, ← Nat.pow_add, show p + (32 - p) = 32 by omega]
    have hD0 : 0 < D := by rw [← hD]; exact Nat.pos_of_ne_zero (by simp)
    simp only [shr, val, ih, hD]
    have hv0 : val xs % D = xs.getD 0 0 % D := by
      cases xs with
      | nil => simp [val]
      | cons y ys =>
        simp only [val, List.getD_cons_zero]
        rw [← hDE, Nat.mul_assoc, Nat.add_mul_mod_self_left]
    generalize xs.getD 0 0 = v0 at *
    generalize val xs = V at *
    have hxd : x / D < E := by rw [Nat.div_lt_iff_lt_mul hD0, Nat.mul_comm, hDE]; exact hx
    have e1 : (x + 4294967296 * V) / D = x / D + E * V := by
      rw [← hDE, Nat.mul_assoc, Nat.add_mul_div_left _ _ hD0]
    have e2 : (x + 4294967296 * v0) / D = x / D + E * v0 := by
      rw [← hDE, Nat.mul_assoc, Nat.add_mul_div_left _ _ hD0]
    rw [e1, e2]
    have m1 := Nat.div_add_mod V D
    have m2 := Nat.div_add_mod v0 D
    have hr : v0 % D < D := Nat.mod_lt _ hD0
    have k1 : E * V = 4294967296 * (V / D) + E * (V % D) := by
      rw [← hDE]
      have := congrArg (E * ·) m1
      simp only [Nat.mul_add] at this
      rw [← this]
      grind
    have k2 : E * v0 = 4294967296 * (v0 / D) + E * (v0 % D) := by
      rw [← hDE]
      have := congrArg (E * ·) m2
      simp only [Nat.mul_add] at this
      rw [← this]
      grind
    have hlow : x / D + E * (v0 % D) < 4294967296 := by
      have h1 := Nat.mul_le_mul_left E (show v0 % D + 1 ≤ D from hr)
      rw [Nat.mul_add, Nat.mul_comm E D, hDE] at h1
      omega
    rw [k1, k2, hv0]
    have : x / D + (4294967296 * (v0 / D) + E * (v0 % D)) = (x / D + E * (v0 % D)) + 4294967296 * (v0 / D) := by omega
    rw [this, Nat.add_mul_mod_self_left, Nat.mod_eq_of_lt hlow]
    omega
end Go.Proofs.Ytagfkmbljkglpaa
