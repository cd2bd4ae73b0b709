import Derived.Test.YtgmnadlmejkkpaaDoorH4
import Derived.Deep.RegionHeld3
set_option linter.unusedVariables false
set_option linter.unusedSimpArgs false
namespace Go.Proofs.YtgmnadlmejkkpaaDoor
open Go.RowKit
theorem slice64_to (wx : World) (b o n c k : Nat) (hk : k ≤ c) : (Instr.slice 25 (.slice (some ⟨b, o, none⟩) n c) none (some (.int .i64 (k : Nat))) none).run Tryd.prog wx = .ok (.slice (some ⟨b, o, none⟩) k c) wx := by
  rw [run_slice_h (P := Tryd.prog) wx 25 (some ⟨b, o, none⟩) n c Tryd.underlying25 .i64 k (by omega) (by omega)]
  have e2 : (sizeOf (Tryd.prog.elem 25)).run Tryd.prog wx = .ok 1 wx := by kernel_rfl
  rw [e2]
  simp [Result.andThen, sliced, Addr.add]
theorem pcn_mask (x r : Nat) (h : r ≤ 64) : pcn 64 (x &&& (2 ^ r - 1)) = pcn r x := by
  obtain ⟨d, hd⟩ : ∃ d, 64 = r + d := ⟨64 - r, by omega⟩
  rw [hd, Nat.and_two_pow_sub_one_eq_mod, pcn_add, pcn_mod, Nat.div_eq_of_lt (Nat.mod_lt _ (Nat.two_pow_pos r))]
  have : pcn d 0 = 0 := by unfold pcn; rw [List.countP_eq_zero]; intro i _; simp
  omega
theorem cn_take (l : List Nat) (q m : Nat) (h : m ≤ 64 * q) : cn (l.take q) m = cn l m := by
  unfold cn
  apply List.countP_congr
  intro i hi
  rw [List.mem_range] at hi
  have : hs (l.take q) i = hs l i := by
    unfold hs
    have e : (l.take q).getD (i / 64) 0 = l.getD (i / 64) 0 := by
      simp only [List.getD, List.getElem?_take]
      rw [if_pos (by omega)]
    rw [e]
  rw [this]
/-- How many bits are in below a whole number. -/
def rankI (l : List Nat) (i : Int) : Nat := if i < 0 then 0 else cn l i.toNat
set_option maxRecDepth 100000 in
set_option maxHeartbeats 1000000 in
theorem Rank_any (a : Option Addr) (c : Nat) (l : List Nat) (i : Int) (w : World) (hlc : l.length ≤ c) (hl : l.length ≤ 17592186044416) (hi : i ≤ 9223372036854775807) (hr : Rd w a l) (hw : W64 l) :
    Calls Tryd.prog 39 #[.slice a l.length c, .int .i64 i] w fun e w' => e = .returned (.int .i64 (rankI l i : Nat)) ∧ Keep w w' := by
  by_cases h0 : i < 0
  · have Hv : Hid (rankI l i = 0) := by show _ = _; unfold rankI; rw [if_pos h0]
    go_enter Tryd.func39, Tryd.ntmps39
    go_wp2_with fail
    go_ret
    exact ⟨ret_int (by rw [Hv.out]; rfl), Keep.refl _⟩
  · have hL := fun w => lies_any a c l.length i w hl hi
    by_cases h : i < 64 * (l.length : Int)
    · rw [decide_eq_true (p := 0 ≤ i ∧ i < 64 * (l.length : Int)) (by omega)] at hL
      obtain ⟨n, rfl⟩ := Int.eq_ofNat_of_zero_le (show 0 ≤ i by omega)
      obtain ⟨q, hq⟩ : ∃ q, n / 64 = q := ⟨_, rfl⟩
      obtain ⟨r, hrr⟩ : ∃ r, n % 64 = r := ⟨_, rfl⟩
      have hqi : (n : Int) / 64 = (q : Int) := by omega
      have hri : (n : Int) % 64 = (r : Int) := by omega
      have hql : q < l.length := by omega
      have hr64 : r < 64 := by omega
      have hC := fun w (h : Rd w a l) => Count_any a c (l.take q) w (by simp; omega) (h.take q) (fun x hx => hw x (List.mem_of_mem_take hx))
      have hlt : (l.take q).length = q := by simp; omega
      rw [hlt, cn_take l q _ (Nat.le_refl _)] at hC
      have hO := fun w => ones_any r w (by omega)
      have hxl := W64_getD hw q
      have Hv : Hid (rankI l (n : Int) = cn l (64 * q) + pcn 64 (l.getD q 0 &&& (2 ^ r - 1))) := by
        show _ = _
        unfold rankI
        rw [if_neg (by omega), Int.toNat_natCast, pcn_mask _ r (by omega), ← cn_word l q r (by omega)]
        congr 1
        omega
      have hb1 := cn_le l (64 * q)
      have hml : 2 ^ r - 1 < 18446744073709551616 := by have := bit_lt hr64; omega
      have hand := u64_and_nat (l.getD q 0) (2 ^ r - 1) hxl hml
      have hP := fun w => Ones_any (l.getD q 0 &&& (2 ^ r - 1)) w (and_lt _ hxl)
      have hb2 := pcn_le 64 (l.getD q 0 &&& (2 ^ r - 1))
      obtain ⟨b, o, rfl, hc⟩ := hr q hql
      have hsl := fun wx => slice64_to wx b o l.length c q (by omega)
      have hrr0 := hr
      generalize cn l (64 * q) = N at *
      generalize l.getD q 0 = x at *
      generalize 2 ^ r - 1 = mk at *
      generalize x &&& mk = y at *
      generalize pcn 64 y = P at *
      have hCd := hC w.drew hr
      have htm : (n : Int).tmod 64 = (r : Int) := by rw [Int.tmod_eq_emod_of_nonneg (by omega)]; exact hri
      have htd : (n : Int).tdiv 64 = (q : Int) := by rw [Int.tdiv_eq_ediv_of_nonneg (by omega)]; exact hqi
      have hw1 : IntKind.i64.wrap (q : Int) = (q : Int) := by rw [IntKind.wrap_i64]; omega
      have hw2 : IntKind.i64.wrap ((N : Int) + (P : Int)) = (N : Int) + (P : Int) := by rw [IntKind.wrap_i64]; omega
      clear hq hrr h h0 hC
      go_enter Tryd.func39, Tryd.ntmps39
      go_wp2_with (go_at_call 64; refine (hL _).mono ?_; rintro e w' ⟨rfl, rfl⟩)
      go_region_with first
        | (go_at_call 37; refine hCd.mono ?_; rintro e w' ⟨rfl, rfl⟩)
        | (go_at_call 68; refine (hO _).mono ?_; rintro e w' ⟨rfl, rfl⟩)
        | (go_at_call 67; refine (hP _).mono ?_; rintro e w' ⟨rfl, rfl⟩)
      all_goals
        go_simp
        go_wp2_with fail
        go_ret
        exact ⟨ret_int (by rw [Hv.out]; first | rfl | omega), by first | exact (Keep.refl _).drew | exact Keep.refl _⟩
    · rw [decide_eq_false (p := 0 ≤ i ∧ i < 64 * (l.length : Int)) (by omega)] at hL
      have hC := fun w (h : Rd w a l) => Count_any a c l w hl h hw
      have Hv : Hid (rankI l i = cn l (64 * l.length)) := by show _ = _; unfold rankI; rw [if_neg h0]; exact cn_past (by omega)
      clear h
      go_enter Tryd.func39, Tryd.ntmps39
      go_wp2_with first
        | (go_at_call 64; refine (hL _).mono ?_; rintro e w' ⟨rfl, rfl⟩)
        | (go_at_call 37; refine (hC _ hr).mono ?_; rintro e w' ⟨rfl, rfl⟩)
      go_ret
      exact ⟨ret_int (by rw [Hv.out]), Keep.refl _⟩
end Go.Proofs.YtgmnadlmejkkpaaDoor
