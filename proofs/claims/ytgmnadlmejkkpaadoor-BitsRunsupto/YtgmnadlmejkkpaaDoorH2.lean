import Derived.Test.YtgmnadlmejkkpaaDoorH1
set_option linter.unusedVariables false
set_option linter.unusedSimpArgs false
namespace Go.Proofs.YtgmnadlmejkkpaaDoor
open Go.RowKit
set_option maxRecDepth 100000 in
theorem rHas_any (a : Option Addr) (c : Nat) (l : List Nat) (i : Int) (w : World) (hl : l.length ≤ 17592186044416) (hi : i ≤ 9223372036854775807) (hr : Rd w a l) (hw : W64 l) :
    Calls Tryd.prog 32 #[.slice a l.length c, .int .i64 i] w fun e w' => e = .returned (.bool (hasI l i)) ∧ w' = w := by
  by_cases h0 : i < 0
  · have Hv : Hid (hasI l i = false) := by show _ = _; unfold hasI; rw [decide_eq_false (by omega), Bool.false_and]
    go_enter Tryd.func32, Tryd.ntmps32
    go_wp2_with fail
    go_ret
    exact ⟨ret_bool (by first | exact Hv.out.symm | (rw [Hv.out]; simp; omega)), rfl⟩
  · obtain ⟨n, rfl⟩ := Int.eq_ofNat_of_zero_le (show 0 ≤ i by omega)
    obtain ⟨q, hq⟩ : ∃ q, n / 64 = q := ⟨_, rfl⟩
    obtain ⟨r, hrr⟩ : ∃ r, n % 64 = r := ⟨_, rfl⟩
    have hqi : (n : Int) / 64 = (q : Int) := by omega
    have hri : (n : Int) % 64 = (r : Int) := by omega
    have hr64 : r < 64 := by omega
    have Hv : Hid (hasI l (n : Int) = (l.getD q 0).testBit r) := by
      show _ = _
      unfold hasI hs
      rw [Int.toNat_natCast, hq, hrr, decide_eq_true (by omega), Bool.true_and]
    by_cases hql : q < l.length
    · obtain ⟨b, o, rfl, hc⟩ := hr q hql
      have hxl := W64_getD hw q
      generalize l.getD q 0 = x at hc hxl Hv
      have h1 := and1 x r hxl
      clear hq hrr h0
      go_enter Tryd.func32, Tryd.ntmps32
      go_wp2_with fail
      go_ret
      exact ⟨ret_bool (by first | exact (h1.trans Hv.out.symm) | exact Hv.out.symm), rfl⟩
    · have hz : l.getD q 0 = 0 := by simp [List.getD, List.getElem?_eq_none (Nat.le_of_not_lt hql)]
      have Hv2 : Hid (hasI l (n : Int) = false) := by show _ = _; rw [Hv.out, hz]; simp
      clear hq hrr h0 Hv hz
      go_enter Tryd.func32, Tryd.ntmps32
      go_wp2_with fail
      go_ret
      exact ⟨ret_bool Hv2.out.symm, rfl⟩
/-- The bits that are in, below m. -/
def upB (l : List Nat) (m : Nat) : List Nat := (List.range m).filter (hs l)
theorem upB_succ (l : List Nat) (m : Nat) : upB l (m + 1) = if hs l m then upB l m ++ [m] else upB l m := by
  unfold upB
  rw [List.range_succ, List.filter_append]
  cases h : hs l m <;> simp [h]
theorem upB_length (l : List Nat) (m : Nat) : (upB l m).length = cn l m := by unfold upB cn; rw [List.countP_eq_length_filter]
theorem upB_skip (l : List Nat) (i : Nat) (h : l.getD (i / 64) 0 = 0) : ∀ d, i + d ≤ 64 * (i / 64) + 64 → upB l (i + d) = upB l i
  | 0, _ => rfl
  | d + 1, hd => by
    rw [← Nat.add_assoc, upB_succ, upB_skip l i h d (by omega)]
    have : hs l (i + d) = false := by unfold hs; rw [show (i + d) / 64 = i / 64 by omega, h]; simp
    rw [this]; rfl
set_option maxRecDepth 100000 in
set_option maxHeartbeats 400000 in
theorem rAll_any (a : Option Addr) (c : Nat) (l : List Nat) (w : World) (hl : l.length ≤ 1048576) (hr : Rd w a l) (hw : W64 l) :
    Calls Tryd.prog 38 #[.slice a l.length c] w fun e w' => ∃ v, e = .returned v ∧ OwnI w.heap.size w' v (allB l) ∧ Keep w w' := by
  go_enter Tryd.func38, Tryd.ntmps38
  go_wp2_with fail
  go_loopw [3, 4] (fun v i wr => ∃ k : Nat, k ≤ 64 * l.length ∧ i = .int .i64 k ∧ OwnI w.heap.size wr v (upB l k) ∧ Keep w wr) (fun _ i _ => 64 * l.length - (intOf i).toNat)
  case atStart => exact ⟨0, by omega, rfl, OwnI.nil _ _, Keep.refl _⟩
  case round =>
    obtain ⟨k, hkk, rfl, hown, hkp⟩ := hrel
    obtain ⟨av, cv, rfl, hcv, -⟩ := hown.shape
    have hbd0 : Hid ((upB l k).length ≤ k) := by show _ ≤ _; rw [upB_length]; exact cn_le l k
    by_cases hkl : k < 64 * l.length
    · obtain ⟨q, hq⟩ : ∃ q, k / 64 = q := ⟨_, rfl⟩
      obtain ⟨r, hrr⟩ : ∃ r, k % 64 = r := ⟨_, rfl⟩
      have hqi : (k : Int) / 64 = (q : Int) := by omega
      have hri : (k : Int) % 64 = (r : Int) := by omega
      have hr64 : r < 64 := by omega
      have hql : q < l.length := by omega
      obtain ⟨b, o, rfl, hc⟩ := (hr.keep hkp) q hql
      have hxl := W64_getD hw q
      have hsucc := upB_succ l k
      by_cases hz : l.getD q 0 = 0
      · rw [hz] at hc
        have Hsk : Hid (upB l (64 * q + 64) = upB l k) := by
          show _ = _
          have := upB_skip l k (by rw [hq]; exact hz) (64 * q + 64 - k) (by omega)
          rw [show k + (64 * q + 64 - k) = 64 * q + 64 by omega] at this
          exact this
        have Hkq : Hid (k = 64 * q + r) := by show _ = _; omega
        clear hsucc hz hq hrr
        generalize upB l k = z at *
        go_wp2_with fail
        go_roundw
        case rel => exact ⟨64 * q + 64, by omega, by have := Hkq.out; first | go_num | (congr 1; omega), by rw [Hsk.out]; exact hown, hkp⟩
        case measure => have := Hkq.out; simp [intOf]; omega
      · have hz0 : (((l.getD q 0 : Nat) : Int) == 0) = false := by rw [beq_eq_false_iff_ne]; omega
        have hH := rHas_any (some ⟨b, o, none⟩) c l (k : Int) wr (by omega) (by omega) (hr.keep hkp) hw
        rw [show hasI l (k : Int) = hs l k by unfold hasI; simp] at hH
        clear hz hq hrr
        cases hb : hs l k
        · rw [hb] at hH hsucc
          have Hsu : Hid (upB l (k + 1) = upB l k) := hsucc
          clear hsucc hb
          generalize upB l k = z at *
          generalize l.getD q 0 = x at *
          go_wp2_with (go_at_call 32; refine hH.mono ?_; rintro e w' ⟨rfl, rfl⟩)
          go_roundw
          case rel => exact ⟨k + 1, by omega, by go_num, by rw [Hsu.out]; exact hown, hkp⟩
          case measure => simp [intOf]; omega
        · rw [hb] at hH hsucc
          have Hsu : Hid (upB l (k + 1) = upB l k ++ [k]) := hsucc
          clear hsucc hb
          have hbd : (upB l k).length < 17592186044416 := by have := hbd0.out; omega
          generalize upB l k = z at *
          generalize l.getD q 0 = x at *
          go_wp2_with first
            | (go_at_call 32; refine hH.mono ?_; rintro e w' ⟨rfl, rfl⟩)
            | (at_builtin; refine wpList_appI rfl _ _ rfl z _ rfl _ k rfl rfl hown hkp hbd ?_; intro v' w3 hown' hk')
          obtain ⟨av', cv', rfl, hcv', -⟩ := hown'.shape
          go_roundw
          case rel => exact ⟨k + 1, by omega, by go_num, by rw [Hsu.out]; exact hown', hk'⟩
          case measure => simp [intOf]; omega
    · obtain rfl : k = 64 * l.length := by omega
      go_wp2_with fail
      go_ret
      exact ⟨_, rfl, hown, hkp⟩
end Go.Proofs.YtgmnadlmejkkpaaDoor
