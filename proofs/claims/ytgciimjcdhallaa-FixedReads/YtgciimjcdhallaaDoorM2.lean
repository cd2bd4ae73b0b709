import Derived.Test.YtgciimjcdhallaaDoorR8
import Derived.Test.YtgciimjcdhallaaDoorM1
set_option linter.unusedVariables false
set_option linter.unusedSimpArgs false
namespace Go.Proofs.YtgciimjcdhallaaDoor
open Go.RowKit Go.Shelf
theorem pow_limbs (L k : Nat) (h : L ≤ 9 * k) : (10 : Nat) ^ L ≤ 4294967296 ^ k := by
  have h1 : (10 : Nat) ^ L ≤ 10 ^ (9 * k) := Nat.pow_le_pow_right (by omega) h
  have h2 : (10 : Nat) ^ (9 * k) = 1000000000 ^ k := by rw [Nat.pow_mul]
  have h3 : (1000000000 : Nat) ^ k ≤ 4294967296 ^ k := Nat.pow_le_pow_left (by omega) k
  omega
theorem Nv_nil (w : World) : Li.Nv w (.slice none 0 0) 0 := ⟨none, 0, [], rfl, by simp, by intro i hi; simp at hi, by intro x hx; simp at hx, by first | trivial | (intro h; simp at h) | simp [Lb.Nrm], rfl⟩
set_option maxRecDepth 100000 in
set_option maxHeartbeats 800000 in
theorem Digits_any (l : List UInt8) (w : World) (hl : l.length ≤ 8192) (hd : allD l) :
    Calls Tryd.prog 16 #[.string ⟨l.toArray⟩] w fun e w' => ∃ v', e = .returned v' ∧ Li.Nv w' v' (nat l) ∧ Keep w w' := by
  have s1 : (ByteArray.mk l.toArray).size = l.length := sz_mk l
  obtain ⟨L, hL⟩ : ∃ L, l.length = L := ⟨_, rfl⟩
  rw [hL] at s1 hl
  have HL : Hid (l.length = L) := hL
  have HD : Hid (allD l) := hd
  clear hL hd
  go_enter Tryd.func16, Tryd.ntmps16
  go_wp2_with fail
  go_loopg [3, 4] (L) (fun g v3 v4 wx => ∃ i : Nat, i + g = L ∧ v4 = .int .i64 (i : Int) ∧ Li.Nv wx v3 (nat (l.take i)) ∧ Keep w wx)
  case atStart => exact ⟨0, by omega, rfl, Nv_nil w, Keep.refl _⟩
  case round =>
    obtain ⟨i, hig, rfl, hv, hkp⟩ := hrel
    have HV : Hid (Li.Nv wr _ (nat (l.take i))) := hv
    have KP : Hid (Keep w wr) := hkp
    clear hv hkp
    by_cases hil : i < L
    · have hile : (i : Int) < (L : Int) := by omega
      have hil2 : i < l.length := by have := HL.out; omega
      have hix := fun wx => run_ix l i hil2 wx
      have hst := nat_step l i hil2
      have hb := gd_bounds HD.out hil2
      unfold dv at hst
      obtain ⟨x, hx⟩ : ∃ x, (l.getD i 0).toNat = x := ⟨_, rfl⟩
      rw [hx] at hix hst hb
      obtain ⟨hb1, hb2⟩ := hb
      have w1 : IntKind.u8.wrap ((x : Int) - 48) = ((x - 48 : Nat) : Int) := by
        rw [show (x : Int) - 48 = ((x - 48 : Nat) : Int) by omega]
        obtain ⟨z, hz⟩ : ∃ z, x - 48 = z := ⟨_, rfl⟩
        have : z ≤ 9 := by omega
        rw [hz]
        obtain rfl | rfl | rfl | rfl | rfl | rfl | rfl | rfl | rfl | rfl : z = 0 ∨ z = 1 ∨ z = 2 ∨ z = 3 ∨ z = 4 ∨ z = 5 ∨ z = 6 ∨ z = 7 ∨ z = 8 ∨ z = 9 := by omega
        all_goals rfl
      obtain ⟨y, hy⟩ : ∃ y, x - 48 = y := ⟨_, rfl⟩
      rw [hy] at w1 hst
      have hy9 : y ≤ 9 := by omega
      have hlt : nat (l.take i) < 4294967296 ^ 911 := by
        have h1 := nat_lt (HD.out.take i)
        have h2 := pow_limbs (l.take i).length 911 (by rw [List.length_take]; omega)
        omega
      have hT := Li.times_nv _ (nat (l.take i)) 911 10 y wr HV.out hlt (by omega) (by omega) (by omega)
      have e10 : 10 * nat (l.take i) + y = nat (l.take (i + 1)) := by rw [hst]; omega
      rw [e10] at hT
      clear e10 hlt hst hx hy hil2
      replace hT : Hid (Calls Tryd.prog 31 #[_, .int .u32 10, .int .u32 (y : Int)] wr _) := hT
      go_wp2_with (go_at_call 31; refine hT.out.mono ?_; rintro e w2 ⟨v', rfl, n2, k2⟩; have N2 : Hid (Li.Nv w2 v' (nat (l.take (i + 1)))) := n2; have K2 : Hid (Keep wr w2) := k2; clear n2 k2)
      go_roundg (gk - 1)
      case measure => omega
      case rel => exact ⟨i + 1, by omega, by simp, N2.out, KP.out.trans K2.out⟩
    · obtain rfl : i = L := by omega
      have hile : ¬ (i : Int) < (i : Int) := by omega
      have e : l.take i = l := by rw [← HL.out]; exact List.take_length
      rw [e] at HV
      go_wp2_with fail
      go_ret
      exact ⟨_, rfl, HV.out, KP.out⟩
end Go.Proofs.YtgciimjcdhallaaDoor
