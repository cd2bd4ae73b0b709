import Derived.Test.YtpdjpjkieafnbaaGreatDoorFFM
import Derived.Test.YtpdjpjkieafnbaaGreatDoorLE7
import Derived.Test.YtpdjpjkieafnbaaGreatDoorDG1
set_option linter.unusedVariables false
set_option linter.unusedSimpArgs false
namespace Go.Proofs.YtpdjpjkieafnbaaGreatDoor
/-- A number's digits. -/
def dD (n : Nat) : List UInt8 := if h : n < 10 then [UInt8.ofNat (48 + n)] else dD (n / 10) ++ [UInt8.ofNat (48 + n % 10)]
termination_by n
decreasing_by omega
theorem dD_small {n : Nat} (h : n < 10) : dD n = [UInt8.ofNat (48 + n)] := by rw [dD, dif_pos h]
theorem dD_step {n : Nat} (h : ¬ n < 10) : dD n = dD (n / 10) ++ [UInt8.ofNat (48 + n % 10)] := by rw [dD, dif_neg h]
theorem dD_len (k : Nat) : ∀ n, n < 10 ^ (k + 1) → (dD n).length ≤ k + 1 := by
  induction k with
  | zero => intro n h; rw [dD_small (by simpa using h)]; simp
  | succ k ih =>
    intro n h
    by_cases q : n < 10
    · rw [dD_small q]; simp
    · rw [dD_step q, List.length_append]
      have h1 : n / 10 < 10 ^ (k + 1) := by
        rw [Nat.div_lt_iff_lt_mul (by omega), ← Nat.pow_succ]
        exact h
      have := ih _ h1
      simp
      omega
theorem ofNat_toNat {n : Nat} (h : n < 256) : (UInt8.ofNat n).toNat = n := by simp; omega
theorem dD_d (n : Nat) : ∀ k, n ≤ k → allD (dD n) := by
  intro k
  induction k generalizing n with
  | zero =>
    intro h
    rw [dD_small (by omega)]
    intro b hb
    have : b = UInt8.ofNat (48 + n) := by simpa using hb
    rw [this, show n = 0 by omega]
    decide
  | succ k ih =>
    intro h
    have one : ∀ m, m < 10 → isD (UInt8.ofNat (48 + m)) = true := by
      intro m hm
      unfold isD
      apply decide_eq_true
      rw [ofNat_toNat (by omega)]
      omega
    by_cases q : n < 10
    · rw [dD_small q]
      intro b hb
      have : b = UInt8.ofNat (48 + n) := by simpa using hb
      rw [this]
      exact one n q
    · rw [dD_step q]
      refine (ih (n / 10) (by omega)).app ?_
      intro b hb
      have : b = UInt8.ofNat (48 + n % 10) := by simpa using hb
      rw [this]
      exact one _ (by omega)
theorem dD_nat (n : Nat) : ∀ k, n ≤ k → nat (dD n) = n := by
  intro k
  induction k generalizing n with
  | zero =>
    intro h
    rw [dD_small (by omega), show n = 0 by omega]
    rfl
  | succ k ih =>
    intro h
    by_cases q : n < 10
    · rw [dD_small q, nat_cons]
      unfold dv
      rw [ofNat_toNat (by omega)]
      simp [nat]
    · rw [dD_step q, nat_append, ih (n / 10) (by omega), nat_cons]
      unfold dv
      rw [ofNat_toNat (by omega)]
      simp [nat]
      omega
theorem dD_ne (n : Nat) : dD n ≠ [] := by
  rw [dD]
  split
  · simp
  · simp
/-- The exact digits of m times 2^e. -/
def exZ (k : Nat) (d : List UInt8) : List UInt8 := List.replicate (k + 1 - d.length) 48 ++ d
def exD (m : Nat) (e : Int) : List UInt8 := if 0 ≤ e then dD (m * 2 ^ e.toNat) else (exZ (-e).toNat (dD (m * 5 ^ (-e).toNat))).take ((exZ (-e).toNat (dD (m * 5 ^ (-e).toNat))).length - (-e).toNat) ++ 46 :: (exZ (-e).toNat (dD (m * 5 ^ (-e).toNat))).drop ((exZ (-e).toNat (dD (m * 5 ^ (-e).toNat))).length - (-e).toNat)
theorem exZ_len (k : Nat) (d : List UInt8) : k + 1 ≤ (exZ k d).length := by unfold exZ; rw [List.length_append, List.length_replicate]; omega
theorem exZ_d (k : Nat) {d : List UInt8} (h : allD d) : allD (exZ k d) := (allD.zeros _).app h
theorem exZ_nat (k : Nat) (d : List UInt8) : nat (exZ k d) = nat d := by unfold exZ; rw [nat_append, nat_zeros]; simp
end Go.Proofs.YtpdjpjkieafnbaaGreatDoor
set_option linter.unusedVariables false
set_option linter.unusedSimpArgs false
namespace Go.Proofs.YtpdjpjkieafnbaaGreatDoor.Li
open Go.RowKit Lb
theorem cut0_app (a b : List Nat) (h : cut0 a ≠ []) : cut0 (a ++ b) = cut0 a ++ b := by
  unfold cut0 at *
  rw [List.dropWhile_append]
  simp [h]
theorem dec_small {n : Nat} (h : n < 10) : dec n = [48 + n] := by
  unfold dec
  by_cases h0 : n = 0
  · rw [if_pos h0, h0]
  · rw [if_neg h0, ← cut0_eq n 1 (by omega)]
    rw [dw, dw]
    unfold cut0
    have e : n % 10 = n := Nat.mod_eq_of_lt h
    rw [e, List.nil_append, List.dropWhile_cons_of_neg (by simp; omega)]
theorem dec_step {n : Nat} (h : ¬ n < 10) : dec n = dec (n / 10) ++ [48 + n % 10] := by
  have h1 : n / 10 ≠ 0 := by omega
  have hb : n / 10 < 10 ^ (n / 10) := lt_pow _
  have hb2 : n < 10 ^ (n / 10 + 1) := by rw [Nat.pow_succ]; omega
  unfold dec
  rw [if_neg (by omega), if_neg h1, ← cut0_eq n (n / 10 + 1) hb2, dw, cut0_app _ _ (cut0_ne _ _ (by omega) hb)]
/-- The digits that Print writes are the digits. -/
theorem dec_dD : ∀ (k n : Nat), n ≤ k → (dec n).map UInt8.ofNat = dD n := by
  intro k
  induction k with
  | zero =>
    intro n hn
    rw [dec_small (by omega), dD_small (by omega)]
    rfl
  | succ k ih =>
    intro n hn
    by_cases h : n < 10
    · rw [dec_small h, dD_small h]
      rfl
    · rw [dec_step h, dD_step h, List.map_append, ih (n / 10) (by omega)]
      rfl
theorem S8_dD (n : Nat) : S8 (dec n) = ⟨(dD n).toArray⟩ := by
  unfold S8
  rw [dec_dD n n (Nat.le_refl _)]
/-- Print, of a natural that is not too long. -/
theorem Print_dD (a : Option Addr) (ca : Nat) (l : List Nat) (w : World) (h1 : l.length ≤ ca) (h2 : l.length ≤ 1000) (h3 : Rd w a l) (h4 : Lim l) :
    Calls Tryz.prog 107 #[.slice a l.length ca] w fun e w' => e = .returned (.string ⟨(dD (val l)).toArray⟩) ∧ Keep w w' := by
  have hl : lenB l ≤ 1099511627776 := by
    have := lenB_max h4
    omega
  have q := Print_any a ca l w h1 (by omega) h3 h4 hl
  rw [S8_dD] at q
  exact q
end Go.Proofs.YtpdjpjkieafnbaaGreatDoor.Li
set_option linter.unusedVariables false
set_option linter.unusedSimpArgs false
namespace Go.Proofs.YtpdjpjkieafnbaaGreatDoor.Li
open Go.RowKit Lb
/-- The digits of what is left, ahead of those that are there. -/
def dZ (n : Nat) : List UInt8 := if n = 0 then [] else dD n
theorem dZ_step {n : Nat} (h : 0 < n) : dZ n = dZ (n / 10) ++ [UInt8.ofNat (48 + n % 10)] := by
  unfold dZ
  rw [if_neg (by omega)]
  by_cases q : n < 10
  · rw [if_pos (by omega), dD_small q, Nat.mod_eq_of_lt q]
    rfl
  · rw [if_neg (by omega), dD_step q]
theorem Nv.zero {w : World} {v : Value} (h : Nv w v 0) : ∃ a c, v = .slice a 0 c := by
  obtain ⟨a, c, l, rfl, -, -, -, hn, hv⟩ := h
  by_cases e : l = []
  · subst e; exact ⟨a, c, rfl⟩
  · have := val_pos hn e; omega
theorem Nv.pos {w : World} {v : Value} {n : Nat} (h : Nv w v n) (hn : 0 < n) {k : Nat} (hk : n < 4294967296 ^ k) : ∃ a c l, v = .slice a l.length c ∧ l.length ≤ c ∧ Rd w a l ∧ Lim l ∧ val l = n ∧ l ≠ [] ∧ l.length ≤ k := by
  obtain ⟨a, c, l, e, h1, h2, h3, h4, h5, h6⟩ := h.few hk
  refine ⟨a, c, l, e, h1, h2, h3, h5, ?_, h6⟩
  rintro rfl
  simp [val] at h5
  omega
set_option maxRecDepth 100000 in
set_option maxHeartbeats 800000 in
/-- The reference's decimal. -/
theorem decimal_nv (v : Value) (n k : Nat) (w : World) (h : Nv w v n) (hn : n < 4294967296 ^ k) (hk : k ≤ 1000000) :
    Calls Tryz.prog 52 #[v] w fun e w' => e = .returned (.string ⟨(dD n).toArray⟩) ∧ Keep w w' := by
  by_cases h0 : n = 0
  · subst h0
    obtain ⟨a, c, rfl⟩ := h.zero
    go_enter Tryz.func52, Tryz.ntmps52
    go_wp2_with fail
    go_ret
    exact ⟨by rw [dD_small (by omega)]; rfl, Keep.refl _⟩
  have hp : 0 < n := by omega
  have HV0 : Hid (Nv w v n) := h
  have HE : Hid (dZ n = dD n) := by unfold Hid dZ; rw [if_neg h0]
  obtain ⟨a, c, l, rfl, -, -, -, -, hl0, hlk⟩ := h.pos hp hn
  have hl1 : ((l.length : Int) == 0) = false := by
    rw [beq_eq_false_iff_ne]
    have := List.length_pos_iff.2 hl0
    omega
  have HB : Hid (n < 4294967296 ^ k) := hn
  have HLen : Hid ((dD n).length ≤ 10000001) := by
    refine Nat.le_trans (dD_len (10 * k) n (Nat.lt_of_lt_of_le hn ?_)) (by omega)
    refine Nat.le_trans ?_ (Nat.pow_le_pow_right (by omega) (Nat.le_succ _))
    rw [Nat.pow_mul]
    exact Nat.pow_le_pow_left (by decide) _
  have HP : Hid (0 < n) := hp
  clear h0 hp hn h hl0
  go_enter Tryz.func52, Tryz.ntmps52
  go_wp2_with fail
  go_loopg [0, 3] (n) (fun g v0 v3 wx => ∃ t : List UInt8, v3 = .string ⟨t.toArray⟩ ∧ g ≤ n ∧ Nv wx v0 g ∧ Hid (dZ g ++ t = dD n) ∧ Keep w wx)
  case atStart => exact ⟨[], rfl, Nat.le_refl _, HV0.out, by unfold Hid; rw [List.append_nil]; exact HE.out, Keep.refl _⟩
  case round =>
    clear hl1 hlk
    obtain ⟨t, rfl, hgn, hv, ht, hkp⟩ := hrel
    by_cases hg : gk = 0
    · subst hg
      obtain ⟨a1, c1, rfl⟩ := hv.zero
      go_wp2_with fail
      go_ret
      exact ⟨by rw [← ht.out]; rfl, hkp⟩
    · have hgp : 0 < gk := by omega
      have HB2 : gk < 4294967296 ^ k := Nat.lt_of_le_of_lt hgn HB.out
      obtain ⟨a1, c1, l1, rfl, hc1, r1, m1, v1, n1, hk1⟩ := hv.pos hgp HB2
      have hl2 : decide ((0 : Int) < (l1.length : Int)) = true := decide_eq_true (by have := List.length_pos_iff.2 n1; omega)
      have hl3 : decide (0 < l1.length) = true := decide_eq_true (List.length_pos_iff.2 n1)
      have hD := digit_any a1 c1 l1 wr n1 (by omega) r1 m1
      rw [v1] at hD
      obtain ⟨d, hd⟩ : ∃ d, gk % 10 = d := ⟨_, rfl⟩
      rw [hd] at hD
      have hd10 : d < 10 := by omega
      have HT : Hid (dZ (gk / 10) ++ (UInt8.ofNat (48 + d) :: t) = dD n) := by
        unfold Hid
        rw [← ht.out, dZ_step hgp, hd, List.append_assoc]
        rfl
      have KP : Hid (Keep w wr) := hkp
      have hcv : ∀ wx : World, (convert 61 9 (.slice (some ⟨wx.heap.size, 0, none⟩) 1 1)).run Tryz.prog (wx.alloc (.cells #[.int .u8 (48 + (d : Int))] 5)) = .ok (.string ⟨#[UInt8.ofNat (48 + d)]⟩) (wx.alloc (.cells #[.int .u8 (48 + (d : Int))] 5)) := fun wx => by
        have := convZ wx (48 + d) (by omega)
        rw [show ((48 + d : Nat) : Int) = 48 + (d : Int) by omega] at this
        exact this
      obtain ⟨cc, hcc⟩ : ∃ c, UInt8.ofNat (48 + d) = c := ⟨_, rfl⟩
      rw [hcc] at hcv HT
      clear hcc
      have hcat := one_catZ cc t
      have htl : t.length ≤ 10000010 := by
        have h1 := congrArg List.length ht.out
        rw [List.length_append] at h1
        have h2 := HLen.out
        omega
      have hszt : (ByteArray.mk t.toArray).size = t.length := sz_mk t
      have hwr : IntKind.u8.wrap (48 + (d : Int)) = 48 + (d : Int) := by
        obtain rfl | rfl | rfl | rfl | rfl | rfl | rfl | rfl | rfl | rfl : d = 0 ∨ d = 1 ∨ d = 2 ∨ d = 3 ∨ d = 4 ∨ d = 5 ∨ d = 6 ∨ d = 7 ∨ d = 8 ∨ d = 9 := by omega
        all_goals rfl
      clear hv hd ht r1 m1 v1 hkp hc1
      go_wp2_with (go_at_call 95; refine hD.mono ?_; rintro e w2 ⟨v2, rfl, hv2, k2⟩)
      go_roundg (gk / 10)
      case measure => omega
      case rel =>
        refine ⟨cc :: t, rfl, by omega, ?_, HT, ?_⟩
        · exact hv2.keep ((Keep.refl _).alloc _)
        · exact (KP.out.trans k2).alloc _
end Go.Proofs.YtpdjpjkieafnbaaGreatDoor.Li
