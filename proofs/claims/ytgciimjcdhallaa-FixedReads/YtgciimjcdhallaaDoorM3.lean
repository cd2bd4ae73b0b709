import Derived.Test.YtgciimjcdhallaaDoorM2
import Derived.Laws.BytesArg
set_option linter.unusedVariables false
set_option linter.unusedSimpArgs false
namespace Go.Proofs.YtgciimjcdhallaaDoor
open Go.RowKit Go.Shelf
/-- A number's digits. -/
def dD (n : Nat) : List UInt8 := if h : n < 10 then [UInt8.ofNat (48 + n)] else dD (n / 10) ++ [UInt8.ofNat (48 + n % 10)]
termination_by n
decreasing_by omega
theorem dD_small {n : Nat} (h : n < 10) : dD n = [UInt8.ofNat (48 + n)] := by rw [dD, dif_pos h]
theorem dD_step {n : Nat} (h : ¬ n < 10) : dD n = dD (n / 10) ++ [UInt8.ofNat (48 + n % 10)] := by rw [dD, dif_neg h]
theorem dD_len (k : Nat) : ∀ n, n < 10 ^ (k + 1) → (dD n).length ≤ k + 1 := by
  induction k with
  | zero => intro n h; rw [dD_small (by simpa using h)]; simp
  | succ k ih =>
    intro n h
    by_cases q : n < 10
    · rw [dD_small q]; simp
    · rw [dD_step q, List.length_append]
      have h1 : n / 10 < 10 ^ (k + 1) := by
        rw [Nat.div_lt_iff_lt_mul (by omega), ← Nat.pow_succ]
        exact h
      have := ih _ h1
      simp
      omega
theorem ofNat_toNat {n : Nat} (h : n < 256) : (UInt8.ofNat n).toNat = n := by simp; omega
set_option maxRecDepth 100000 in
set_option maxHeartbeats 800000 in
theorem digitsOf_any (n : Nat) (w : World) (hn : n < 18446744073709551616) :
    Calls Tryd.prog 25 #[.int .u64 (n : Int)] w fun e w' => e = .returned (.string ⟨(dD n).toArray⟩) ∧ Keep w w' := by
  have HL : Hid ((dD n).length ≤ 20) := dD_len 19 n (by have : (10 : Nat) ^ 20 = 100000000000000000000 := by decide
                                                        omega)
  go_enter Tryd.func25, Tryd.ntmps25
  go_wp2_with fail
  go_loopw [0, 3] (fun v0 v3 wr => ∃ (m : Nat) (s : List UInt8), v0 = .int .u64 (m : Int) ∧ v3 = .string ⟨s.toArray⟩ ∧ m < 18446744073709551616 ∧ Hid (dD n = dD m ++ s) ∧ Keep w wr) (fun v0 _ _ => (intOf v0).toNat)
  case atStart => exact ⟨n, [], rfl, rfl, hn, by show _ = _; simp, Keep.refl _⟩
  case round =>
    obtain ⟨m, s, rfl, rfl, hm, hd, hkp⟩ := hrel
    have KP : Hid (Keep w wr) := hkp
    clear hkp
    obtain ⟨y, hy⟩ : ∃ y, m % 10 = y := ⟨_, rfl⟩
    have hy9 : y ≤ 9 := by omega
    have hyI : (m : Int) % 10 = (y : Int) := by omega
    obtain ⟨c, hc⟩ : ∃ c, UInt8.ofNat (48 + y) = c := ⟨_, rfl⟩
    have hct : c.toNat = 48 + y := by rw [← hc]; exact ofNat_toNat (by omega)
    have hw8 : IntKind.u8.wrap (48 + (y : Int)) = 48 + (y : Int) := by
      obtain rfl | rfl | rfl | rfl | rfl | rfl | rfl | rfl | rfl | rfl : y = 0 ∨ y = 1 ∨ y = 2 ∨ y = 3 ∨ y = 4 ∨ y = 5 ∨ y = 6 ∨ y = 7 ∨ y = 8 ∨ y = 9 := by omega
      all_goals rfl
    have hcv : (convert 78 9 (.slice (some ⟨wr.heap.size, 0, none⟩) 1 1)).run Tryd.prog (wr.alloc (.cells #[.int .u8 (48 + (y : Int))] 5)) = .ok (.string ⟨#[c]⟩) (wr.alloc (.cells #[.int .u8 (48 + (y : Int))] 5)) := by
      have := run_convert_bytes_back (P := Tryd.prog) (wr.alloc (.cells #[.int .u8 (48 + (y : Int))] 5)) 78 9 5 ⟨wr.heap.size, 0, none⟩ 1 [c] Tryd.underlying78 Tryd.underlying5 Tryd.underlying9 (by
        intro j hj
        obtain rfl : j = 0 := by simpa using hj
        simp [Addr.add, hct])
      exact this
    have hcat : (ByteArray.mk #[c]) ++ (ByteArray.mk s.toArray) = ByteArray.mk (c :: s).toArray := catB [c] s
    have hsl : s.length ≤ 20 := by have h1 := HL.out; rw [hd.out, List.length_append] at h1; omega
    have s1 : (ByteArray.mk s.toArray).size = s.length := sz_mk s
    have s2 : (ByteArray.mk #[c]).size = 1 := rfl
    by_cases hm10 : m < 10
    · have hq : (m : Int) / 10 = 0 := by omega
      have hr : Hid (dD n = c :: s) := by
        show _ = _
        rw [hd.out, dD_small hm10, ← hc, ← hy, Nat.mod_eq_of_lt hm10]
        rfl
      clear hc hct hy hm10
      go_wp2_with fail
      go_ret
      exact ⟨by rw [hr.out]; rfl, KP.out.alloc _⟩
    · obtain ⟨m2, hm2⟩ : ∃ m2, m / 10 = m2 := ⟨_, rfl⟩
      have hq : (m : Int) / 10 = (m2 : Int) := by omega
      have hr : Hid (dD n = dD m2 ++ (c :: s)) := by
        show _ = _
        rw [hd.out, dD_step hm10, hm2, hy, hc, List.append_assoc]
        rfl
      have hm20 : 0 < m2 := by omega
      have hm2l : m2 < m := by omega
      clear hc hct hy hm10 hm2
      go_wp2_with fail
      go_roundw
      case rel => exact ⟨m2, c :: s, rfl, rfl, by omega, hr, KP.out.alloc _⟩
      case measure => simp [intOf]; omega
end Go.Proofs.YtgciimjcdhallaaDoor
