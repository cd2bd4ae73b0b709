import Derived.Test.YtgmnadlmejkkpaaDoorJ5
set_option linter.unusedVariables false
set_option linter.unusedSimpArgs false
namespace Go.Proofs.YtgmnadlmejkkpaaDoor
open Go.RowKit
/-- A word, or its complement. -/
def wv (inb : Bool) (x : Nat) : Nat := if inb then x else 18446744073709551615 - x
theorem wv_lt (inb : Bool) {x : Nat} (h : x < 18446744073709551616) : wv inb x < 18446744073709551616 := by unfold wv; split <;> omega
theorem wv_bit (inb : Bool) {x : Nat} (h : x < 18446744073709551616) {i : Nat} (hi : i < 64) : (wv inb x).testBit i = (x.testBit i == inb) := by
  unfold wv
  cases inb
  · have := Nat.testBit_two_pow_sub_succ (n := 64) h i
    rw [if_neg (by simp), show 18446744073709551615 - x = 2 ^ 64 - (x + 1) by omega, this, decide_eq_true hi, Bool.true_and]
    cases x.testBit i <;> rfl
  · rw [if_pos rfl]; cases x.testBit i <;> rfl
/-- What seek answers. -/
def Sk (l : List Nat) (i : Nat) (inb : Bool) (j : Nat) : Prop := i ≤ j ∧ j ≤ 64 * l.length ∧ (∀ k, i ≤ k → k < j → hs l k = !inb) ∧ (j < 64 * l.length → hs l j = inb)
theorem shift_spec {y r : Nat} (hy : y < 18446744073709551616) (hr : r < 64) (h : y / 2 ^ r ≠ 0) : y / 2 ^ r < 18446744073709551616 ∧ r + Lib.ctz 64 (y / 2 ^ r) < 64 ∧ y.testBit (r + Lib.ctz 64 (y / 2 ^ r)) = true ∧ ∀ j, r ≤ j → j < r + Lib.ctz 64 (y / 2 ^ r) → y.testBit j = false := by
  have hlt : y / 2 ^ r < 18446744073709551616 := Nat.lt_of_le_of_lt (Nat.div_le_self _ _) hy
  obtain ⟨h1, h2, h3, -⟩ := ctz_spec hlt h
  generalize Lib.ctz 64 (y / 2 ^ r) = t at h1 h2 h3
  have e : ∀ j, (y / 2 ^ r).testBit j = y.testBit (r + j) := by intro j; rw [Nat.testBit_div_two_pow, Nat.add_comm]
  rw [e] at h2
  refine ⟨hlt, ?_, h2, ?_⟩
  · by_cases hh : r + t < 64
    · exact hh
    · have : y.testBit (r + t) = false := Nat.testBit_lt_two_pow (Nat.lt_of_lt_of_le hy (Nat.pow_le_pow_right (n := 2) (i := 64) (j := r + t) (by omega) (by omega)))
      rw [this] at h2; cases h2
  · intro j hj1 hj2
    have := h3 (j - r) (by omega)
    rw [e, show r + (j - r) = j by omega] at this
    exact this
theorem shift_zero {y r : Nat} (h : y / 2 ^ r = 0) : ∀ j, r ≤ j → y.testBit j = false := by
  intro j hj
  have e : (y / 2 ^ r).testBit (j - r) = y.testBit j := by rw [Nat.testBit_div_two_pow, show j - r + r = j by omega]
  rw [← e, h]; simp
theorem sk_here {l : List Nat} (hw : W64 l) {i : Nat} {inb : Bool} (hi : i < 64 * l.length) (h : wv inb (l.getD (i / 64) 0) / 2 ^ (i % 64) ≠ 0) : Sk l i inb (i + Lib.ctz 64 (wv inb (l.getD (i / 64) 0) / 2 ^ (i % 64))) := by
  have hx := W64_getD hw (i / 64)
  obtain ⟨-, h2, h3, h4⟩ := shift_spec (wv_lt inb hx) (Nat.mod_lt i (by omega)) h
  generalize Lib.ctz 64 (wv inb (l.getD (i / 64) 0) / 2 ^ (i % 64)) = t at h2 h3 h4
  have hs' : ∀ k, i ≤ k → k ≤ i + t → hs l k = (l.getD (i / 64) 0).testBit (k % 64) := by
    intro k h1 h2'
    unfold hs
    rw [show k / 64 = i / 64 by omega]
  refine ⟨by omega, by omega, ?_, ?_⟩
  · intro k h1 h2'
    have := h4 (k % 64) (by omega) (by omega)
    rw [wv_bit inb hx (by omega)] at this
    rw [hs' k h1 (by omega)]
    revert this
    cases (l.getD (i / 64) 0).testBit (k % 64) <;> cases inb <;> simp
  · intro _
    rw [wv_bit inb hx (by omega), show i % 64 + t = (i + t) % 64 by omega] at h3
    rw [hs' (i + t) (by omega) (by omega)]
    simpa using h3
theorem sk_next {l : List Nat} (hw : W64 l) {i : Nat} {inb : Bool} (h : wv inb (l.getD (i / 64) 0) / 2 ^ (i % 64) = 0) : ∀ k, i ≤ k → k < (i / 64 + 1) * 64 → hs l k = !inb := by
  intro k h1 h2
  have hx := W64_getD hw (i / 64)
  have := shift_zero h (k % 64) (by omega)
  rw [wv_bit inb hx (by omega)] at this
  unfold hs
  rw [show k / 64 = i / 64 by omega]
  revert this
  cases (l.getD (i / 64) 0).testBit (k % 64) <;> cases inb <;> simp
theorem Sk.one {l : List Nat} {i : Nat} {inb : Bool} {j j' : Nat} (h : Sk l i inb j) (h' : Sk l i inb j') : j = j' := by
  obtain ⟨a1, a2, a3, a4⟩ := h
  obtain ⟨b1, b2, b3, b4⟩ := h'
  rcases Nat.lt_trichotomy j j' with e | e | e
  · have := b3 j a1 e
    rw [a4 (by omega)] at this
    cases inb <;> cases this
  · exact e
  · have := a3 j' b1 e
    rw [b4 (by omega)] at this
    cases inb <;> cases this
theorem compl_nat {x : Nat} (h : x < 18446744073709551616) : 18446744073709551615 ^^^ x = 18446744073709551615 - x := by
  apply Nat.eq_of_testBit_eq
  intro i
  have h1 := Nat.testBit_two_pow_sub_succ (n := 64) h i
  rw [show 18446744073709551615 - x = 2 ^ 64 - (x + 1) by omega, h1, Nat.testBit_xor, show (18446744073709551615 : Nat) = 2 ^ 64 - 1 by decide, Nat.testBit_two_pow_sub_one]
  by_cases hi : i < 64
  · rw [decide_eq_true hi]; cases x.testBit i <;> rfl
  · have hxi : x.testBit i = false := Nat.testBit_lt_two_pow (Nat.lt_of_lt_of_le h (Nat.pow_le_pow_right (n := 2) (i := 64) (j := i) (by omega) (by omega)))
    rw [hxi, decide_eq_false hi]; rfl
theorem compl_bits {x : Nat} (h : x < 18446744073709551616) : bits BinOp.xor IntKind.u64 (if IntKind.u64.signed = true then -1 else IntKind.u64.max) (x : Int) = ((wv false x : Nat) : Int) := by
  have := u64_xor_nat 18446744073709551615 x (by omega) h
  rw [compl_nat h] at this
  exact this
set_option maxRecDepth 100000 in
set_option maxHeartbeats 1000000 in
theorem seek_any (a : Option Addr) (c i0 : Nat) (l : List Nat) (inb : Bool) (w : World) (hl : l.length ≤ 17592186044416) (hi : i0 ≤ 64 * l.length) (hr : Rd w a l) (hw : W64 l) (hT : Tab w) :
    Calls Tryd.prog 70 #[.slice a l.length c, .int .i64 (i0 : Nat), .bool inb] w fun e w' => (∃ j : Nat, e = .returned (.int .i64 (j : Nat)) ∧ Sk l i0 inb j) ∧ w' = w := by
  go_enter Tryd.func70, Tryd.ntmps70
  go_wp2_with fail
  go_loop [1] (fun v => ∃ i : Nat, v = .int .i64 i ∧ Hid (i0 ≤ i ∧ i ≤ 64 * l.length ∧ ∀ k, i0 ≤ k → k < i → hs l k = !inb)) (fun v => 64 * l.length - (intOf v).toNat)
  case atStart => exact ⟨i0, rfl, Nat.le_refl _, hi, fun k h1 h2 => absurd h1 (by omega)⟩
  case round =>
    obtain ⟨i, rfl, hinv⟩ := hrel
    have hib := hinv.out.2.1
    by_cases hil : i < 64 * l.length
    · have hgt : (i : Int) < (l.length : Int) * 64 := by omega
      obtain ⟨q, hq⟩ : ∃ q, i / 64 = q := ⟨_, rfl⟩
      obtain ⟨r, hrr⟩ : ∃ r, i % 64 = r := ⟨_, rfl⟩
      have hqi : (i : Int) / 64 = (q : Int) := by omega
      have hri : (i : Int) % 64 = (r : Int) := by omega
      have hr64 : r < 64 := by omega
      have hql : q < l.length := by omega
      have hxl := W64_getD hw q
      obtain ⟨b, o, rfl, hc⟩ := hr q hql
      have Hh : Hid (wv inb (l.getD q 0) / 2 ^ r ≠ 0 → Sk l i inb (i + Lib.ctz 64 (wv inb (l.getD q 0) / 2 ^ r))) := by
        show _ → _
        intro h
        have := sk_here (inb := inb) hw hil (by rw [hq, hrr]; exact h)
        rw [hq, hrr] at this
        exact this
      have Hn : Hid (wv inb (l.getD q 0) / 2 ^ r = 0 → ∀ k, i ≤ k → k < (q + 1) * 64 → hs l k = !inb) := by
        show _ → _
        intro h
        have := sk_next (inb := inb) hw (i := i) (by rw [hq, hrr]; exact h)
        rw [hq] at this
        exact this
      have Hb : Hid (wv inb (l.getD q 0) / 2 ^ r ≠ 0 → wv inb (l.getD q 0) / 2 ^ r < 18446744073709551616 ∧ r + Lib.ctz 64 (wv inb (l.getD q 0) / 2 ^ r) < 64) := by
        show _ → _
        intro h
        obtain ⟨g1, g2, -⟩ := shift_spec (wv_lt inb hxl) hr64 h
        exact ⟨g1, g2⟩
      generalize l.getD q 0 = x at *
      have Hq : Hid (i = 64 * q + r) := by show _ = _; omega
      clear hq hrr
      obtain ⟨y, hy⟩ : ∃ y, wv inb x = y := ⟨_, rfl⟩
      obtain ⟨z, hz⟩ : ∃ z, y / 2 ^ r = z := ⟨_, rfl⟩
      rw [hy, hz] at Hh Hn Hb
      have hzi : (y : Int) / 2 ^ r = (z : Int) := by rw [← hz]; push_cast; rfl
      have hzb : z < 18446744073709551616 := by rw [← hz, ← hy]; exact Nat.lt_of_le_of_lt (Nat.div_le_self _ _) (wv_lt inb hxl)
      clear hz
      cases inb
      · have hcp := compl_bits hxl
        rw [hy] at hcp
        clear hy
        by_cases hz0 : z = 0
        · subst hz0
          have HN := Hn.out rfl
          have HN' : Hid (i0 ≤ (q + 1) * 64 ∧ (q + 1) * 64 ≤ 64 * l.length ∧ ∀ k, i0 ≤ k → k < (q + 1) * 64 → hs l k = !false) := by
            refine ⟨by have := hinv.out.1; have := Hq.out; omega, by omega, fun k h1 h2 => ?_⟩
            by_cases hk : k < i
            · exact hinv.out.2.2 k h1 hk
            · exact HN k (by omega) h2
          clear HN Hn Hh Hb
          go_wp2_with fail
          go_round
          case rel => exact ⟨(q + 1) * 64, by first | rfl | go_num, HN'⟩
          case measure => have := Hq.out; simp [intOf]; omega
        · obtain ⟨g1, g2⟩ := Hb.out hz0
          have HS := Hh.out hz0
          have hne : ((z : Int) != 0) = true := by rw [bne_iff_ne]; omega
          have hne2 : ((z : Int) == 0) = false := by rw [beq_eq_false_iff_ne]; omega
          have hZ := tz_any z g1 hz0 w hT
          generalize Lib.ctz 64 z = t at hZ g2 HS
          have HS' : Hid (Sk l i0 false (i + t)) := by
            obtain ⟨s1, s2, s3, s4⟩ := HS
            refine ⟨by have := hinv.out.1; omega, s2, fun k h1 h2 => ?_, s4⟩
            by_cases hk : k < i
            · exact hinv.out.2.2 k h1 hk
            · exact s3 k (by omega) h2
          clear HS Hn Hh Hb
          go_wp2_with (go_at_call 72; refine hZ.mono ?_; rintro e w' ⟨rfl, rfl⟩)
          go_ret
          exact ⟨⟨i + t, ret_int (by first | rfl | omega), HS'.out⟩, rfl⟩
      · have hcp : x = y := hy
        subst hcp
        clear hy
        by_cases hz0 : z = 0
        · subst hz0
          have HN := Hn.out rfl
          have HN' : Hid (i0 ≤ (q + 1) * 64 ∧ (q + 1) * 64 ≤ 64 * l.length ∧ ∀ k, i0 ≤ k → k < (q + 1) * 64 → hs l k = !true) := by
            refine ⟨by have := hinv.out.1; have := Hq.out; omega, by omega, fun k h1 h2 => ?_⟩
            by_cases hk : k < i
            · exact hinv.out.2.2 k h1 hk
            · exact HN k (by omega) h2
          clear HN Hn Hh Hb
          go_wp2_with fail
          go_round
          case rel => exact ⟨(q + 1) * 64, by first | rfl | go_num, HN'⟩
          case measure => have := Hq.out; simp [intOf]; omega
        · obtain ⟨g1, g2⟩ := Hb.out hz0
          have HS := Hh.out hz0
          have hne : ((z : Int) != 0) = true := by rw [bne_iff_ne]; omega
          have hne2 : ((z : Int) == 0) = false := by rw [beq_eq_false_iff_ne]; omega
          have hZ := tz_any z g1 hz0 w hT
          generalize Lib.ctz 64 z = t at hZ g2 HS
          have HS' : Hid (Sk l i0 true (i + t)) := by
            obtain ⟨s1, s2, s3, s4⟩ := HS
            refine ⟨by have := hinv.out.1; omega, s2, fun k h1 h2 => ?_, s4⟩
            by_cases hk : k < i
            · exact hinv.out.2.2 k h1 hk
            · exact s3 k (by omega) h2
          clear HS Hn Hh Hb
          go_wp2_with (go_at_call 72; refine hZ.mono ?_; rintro e w' ⟨rfl, rfl⟩)
          go_ret
          exact ⟨⟨i + t, ret_int (by first | rfl | omega), HS'.out⟩, rfl⟩
    · have hge : ¬ (i : Int) < (l.length : Int) * 64 := by omega
      have hie : i = 64 * l.length := by omega
      go_wp2_with fail
      go_ret
      refine ⟨⟨i, ret_int (by omega), hinv.out.1, by omega, hinv.out.2.2, fun h => absurd h (by omega)⟩, rfl⟩
end Go.Proofs.YtgmnadlmejkkpaaDoor
