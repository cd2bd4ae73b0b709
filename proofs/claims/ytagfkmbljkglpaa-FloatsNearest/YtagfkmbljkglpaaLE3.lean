import Derived.Test.YtagfkmbljkglpaaProg
import Derived.Test.YtagfkmbljkglpaaLE2
import Derived.WalkKit
import Derived.WalkSpells
import Derived.WalkLawsBesides
import Derived.Laws.CopyOwn
import Derived.Deep.Draws
import Derived.Deep.QuietTactic
import Derived.BigQuiet
import Derived.Laws.MathBits
import Derived.Shelf.Small.Bits
import Derived.Shelf.Strconv.Itoa0
import Derived.Shelf.Bits.Mul64
import Derived.Laws.BytesArg
import Derived.Lib.OthersKept
import Derived.Deep.RegionWith
set_option linter.unusedVariables false
set_option linter.unusedSimpArgs false
namespace Go.Proofs.Ytagfkmbljkglpaa
open Go.RowKit Lb
theorem val_drop (l : List Nat) (hm : Lim l) (n : Nat) : val (l.drop n) = val l / 4294967296 ^ n := by
  by_cases h : n ≤ l.length
  · have h1 : val l = val (l.take n) + 4294967296 ^ n * val (l.drop n) := by
      have := val_append (l.take n) (l.drop n)
      rw [List.take_append_drop] at this
      rw [this, List.length_take, Nat.min_eq_left h]
    have h2 := val_lt (Lim_take hm n)
    rw [List.length_take, Nat.min_eq_left h] at h2
    rw [h1, Nat.add_mul_div_left _ _ (Nat.pos_of_ne_zero (by simp)), Nat.div_eq_of_lt h2, Nat.zero_add]
  · rw [List.drop_eq_nil_of_le (by omega)]
    have h2 := val_lt hm
    have h3 : 4294967296 ^ l.length ≤ 4294967296 ^ n := Nat.pow_le_pow_right (by omega) (by omega)
    rw [Nat.div_eq_of_lt (by omega)]; rfl
theorem low_val (l : List Nat) (hm : Lim l) (n : Nat) : val (shr (n % 32) (l.drop (n / 32))) = val l / 2 ^ n := by
  rw [shr_val _ (Nat.mod_lt _ (by omega)) _ (Lim_drop hm _), val_drop l hm, Nat.div_div_eq_div_mul]
  congr 1
  rw [show (4294967296 : Nat) = 2 ^ 32 from rfl, ← Nat.pow_mul, ← Nat.pow_add]
  congr 1
  omega
set_option maxRecDepth 100000 in
set_option maxHeartbeats 400000 in
theorem lowered_any (a : Option Addr) (ca n : Nat) (la : List Nat) (w : World) (hca : la.length ≤ ca) (hla : la.length ≤ 70368744177664) (hn : n ≤ 4503599627370496) (hra : Rd w a la) (hma : Lim la) :
    Calls Try.prog 40 #[.slice a la.length ca, .int .i64 (n : Nat)] w fun e w' => ∃ v, e = .returned v ∧ NatR w.heap.size w' v (val la / 2 ^ n) ∧ Keep w w' := by
  have HV : Hid (val (shr (n % 32) (la.drop (n / 32))) = val la / 2 ^ n) := low_val la hma n
  obtain ⟨W, hW⟩ : ∃ W, n / 32 = W := ⟨_, rfl⟩
  obtain ⟨p, hp⟩ : ∃ p, n % 32 = p := ⟨_, rfl⟩
  have hWi : (n : Int) / 32 = (W : Int) := by omega
  have hpi : (n : Int) % 32 = (p : Int) := by omega
  have hp32 : p < 32 := by omega
  rw [hW, hp] at HV
  clear hW hp
  by_cases hbig : la.length ≤ W
  · go_enter Try.func40, Try.ntmps40
    go_wp2_with fail
    go_ret
    refine ⟨_, rfl, ⟨[], .inl ⟨rfl, rfl⟩, by intro x hx; simp at hx, by simp [Nrm], ?_⟩, Keep.refl _⟩
    have h := HV.out
    rw [List.drop_eq_nil_of_le hbig] at h
    exact h
  · have hdl : (la.drop W).length = la.length - W := by simp
    have hmd := Lim_drop hma W
    obtain ⟨b, o, rfl, -⟩ := hra 0 (by omega)
    have hrd := hra.drop W
    have hsl := fun wx => slice32_from wx b o (o + W) la.length ca W (by omega) (.inr ⟨by omega, rfl⟩)
    generalize la.drop W = d at *
    have hF := fresh_any (some ⟨b, o + W, none⟩) (ca - W) d w (by omega) hrd
    rw [hdl] at hF
    go_enter Try.func40, Try.ntmps40
    go_wp2_with fail
    refine hF.mono ?_
    rintro e w1 ⟨rfl, hrow, hk, -⟩
    clear hF hsl
    obtain ⟨D, hD⟩ : ∃ D, la.length - W = D := ⟨_, rfl⟩
    rw [hD] at hdl ⊢
    have Hdl : Hid (d.length = D) := hdl
    have hDb : D ≤ 70368744177664 := by omega
    clear hD hdl hbig hrd hra hca
    go_wp2_with fail
    go_loopw [24] (fun i wr => ∃ (k : Nat) (rk : List Nat), k ≤ D ∧ i = .int .i64 k ∧ Row wr w.heap.size rk ∧ Hid (rk.length = D) ∧ Hid (rk = (shr p d).take k ++ d.drop k) ∧ Keep w wr) (fun i _ => D - (intOf i).toNat)
    case atStart => exact ⟨0, d, by omega, rfl, hrow, Hdl, by show _ = _; simp, hk⟩
    case round =>
      obtain ⟨k, rk, hkk, rfl, hrk, hlen, hrk2, hkp⟩ := hrel
      by_cases hkl : k < D
      · obtain ⟨x, hx⟩ : ∃ x, d.getD k 0 = x := ⟨_, rfl⟩
        obtain ⟨z, hz⟩ : ∃ z, d.getD (k + 1) 0 = z := ⟨_, rfl⟩
        have hxl : x < 4294967296 := hx ▸ Lim_getD hmd _
        have hzl : z < 4294967296 := hz ▸ Lim_getD hmd _
        have hg : ∀ j, k ≤ j → rk.getD j 0 = d.getD j 0 := by
          intro j hj
          have e : ((shr p d).take k).length = k := by rw [List.length_take, shr_length, Hdl.out]; omega
          rw [hrk2.out]
          simp only [List.getD, List.getElem?_append, e, if_neg (show ¬ j < k by omega), List.getElem?_drop]
          rw [show k + (j - k) = j by omega]
        have hc1 := hrk.cell k (by rw [hlen.out]; omega)
        rw [hg k (Nat.le_refl _), hx] at hc1
        have hfz := hrk.frozen k
        have hset : ∀ y, y = (x + 4294967296 * z) / 2 ^ p % 4294967296 → rk.set k y = (shr p d).take (k + 1) ++ d.drop (k + 1) := by
          intro y hy
          rw [← hx, ← hz, ← shr_get p d k (by rw [Hdl.out]; omega)] at hy
          have e : ((shr p d).take k).length = k := by rw [List.length_take, shr_length, Hdl.out]; omega
          rw [hrk2.out, List.set_append_right _ _ (by omega), e, Nat.sub_self, take_snoc _ k (by rw [shr_length, Hdl.out]; omega), hy]
          rw [List.drop_eq_getElem_cons (show k < d.length by rw [Hdl.out]; omega), List.set_cons_zero, List.append_assoc]
          rfl
        have HS : Hid (∀ y, y = (x + 4294967296 * z) / 2 ^ p % 4294967296 → rk.set k y = (shr p d).take (k + 1) ++ d.drop (k + 1)) := hset
        by_cases hk1 : k + 1 < D
        · have hc2 := hrk.cell (k + 1) (by rw [hlen.out]; omega)
          rw [hg _ (by omega), hz] at hc2
          have hor := or64 z x hzl hxl
          clear hx hz hg hset
          go_wp2_with fail
          go_roundw
          case rel =>
            refine ⟨k + 1, rk.set k ((x + z * 4294967296) / 2 ^ p % 4294967296), by omega, by go_num, ?_, by show _ = _; rw [List.length_set]; exact hlen.out, HS.out _ (by rw [Nat.mul_comm z]), hkp.setCell (Nat.le_refl _) _⟩
            have h1 := hrk.set k ((x + z * 4294967296) / 2 ^ p % 4294967296)
            simpa using h1
          case measure => simp [intOf]; omega
        · have hz0 : z = 0 := by rw [← hz]; exact getD_past d _ (by rw [Hdl.out]; omega)
          have hd1 : decide ((k : Int) + 1 < (D : Int)) = false := by simp; omega
          clear hx hz hg hset
          go_wp2_with fail
          go_roundw
          case rel =>
            refine ⟨k + 1, rk.set k (x / 2 ^ p % 4294967296), by omega, by go_num, ?_, by show _ = _; rw [List.length_set]; exact hlen.out, HS.out _ (by rw [hz0, Nat.mul_zero, Nat.add_zero]), hkp.setCell (Nat.le_refl _) _⟩
            have h1 := hrk.set k (x / 2 ^ p % 4294967296)
            simpa using h1
          case measure => simp [intOf]; omega
      · have hT := trim_any (some ⟨w.heap.size, 0, none⟩) D rk wr (by have := hlen.out; omega) (by have := hlen.out; omega) hrk.rd0
        rw [hlen.out] at hT
        have hke : k = D := by omega
        go_wp2_with fail
        refine hT.mono ?_
        rintro e w2 ⟨rfl, rfl⟩
        go_wp2_with fail
        go_ret
        have hr : rk = shr p d := by
          rw [hrk2.out, List.take_of_length_le (by rw [shr_length, Hdl.out]; omega), List.drop_eq_nil_of_le (by rw [Hdl.out]; omega), List.append_nil]
        have h3 := NatR.of_trim (hrk.res (B := w.heap.size) (Nat.le_refl _)) (by rw [hr]; exact shr_lim _ _)
        rw [hlen.out] at h3
        refine ⟨_, rfl, ?_, hkp⟩
        rw [← HV.out, ← hr]
        exact h3
end Go.Proofs.Ytagfkmbljkglpaa
