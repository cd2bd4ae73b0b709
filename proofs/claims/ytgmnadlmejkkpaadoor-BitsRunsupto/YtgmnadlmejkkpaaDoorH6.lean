import Derived.Test.YtgmnadlmejkkpaaDoorH5
set_option linter.unusedVariables false
set_option linter.unusedSimpArgs false
namespace Go.Proofs.YtgmnadlmejkkpaaDoor
open Go.RowKit
theorem rank_count (z : List Nat) (i : Int) (k : Nat) (hk : k < z.length) : (z.take (k + 1)).countP (fun x : Nat => decide ((x : Int) < i)) = (z.take k).countP (fun x : Nat => decide ((x : Int) < i)) + (decide (((z.getD k 0 : Nat) : Int) < i)).toNat := by
  rw [List.take_succ_eq_append_getElem hk, List.countP_append]
  have e : z.getD k 0 = z[k] := by simp [List.getD, hk]
  rw [e]
  cases h : decide ((z[k] : Int) < i) <;> simp [h]
theorem rank_all (l : List Nat) (i : Int) : (allB l).countP (fun x : Nat => decide ((x : Int) < i)) = rankI l i := by
  unfold rankI allB
  rw [List.countP_filter]
  by_cases h0 : i < 0
  · rw [if_pos h0, List.countP_eq_zero]
    intro x _
    simp; omega
  · rw [if_neg h0]
    obtain ⟨n, rfl⟩ := Int.eq_ofNat_of_zero_le (show 0 ≤ i by omega)
    rw [Int.toNat_natCast]
    by_cases h1 : n ≤ 64 * l.length
    · obtain ⟨d, hd⟩ : ∃ d, 64 * l.length = n + d := ⟨64 * l.length - n, by omega⟩
      rw [hd, List.range_add, List.countP_append]
      have e1 : (List.range n).countP (fun a : Nat => decide ((a : Int) < (n : Int)) && hs l a) = cn l n := by
        unfold cn
        apply List.countP_congr
        intro x hx
        rw [List.mem_range] at hx
        simp; omega
      have e2 : ((List.range d).map (n + ·)).countP (fun a : Nat => decide ((a : Int) < (n : Int)) && hs l a) = 0 := by
        rw [List.countP_eq_zero]
        intro x hx
        rw [List.mem_map] at hx
        obtain ⟨y, -, rfl⟩ := hx
        simp; omega
      rw [e1, e2, Nat.add_zero]
    · rw [cn_past (by omega)]
      unfold cn
      apply List.countP_congr
      intro x hx
      rw [List.mem_range] at hx
      simp; omega
set_option maxRecDepth 100000 in
theorem rRank_any (a : Option Addr) (c : Nat) (l : List Nat) (i : Int) (w : World) (hl : l.length ≤ 1048576) (hr : Rd w a l) (hw : W64 l) :
    Calls Tryd.prog 40 #[.slice a l.length c, .int .i64 i] w fun e w' => e = .returned (.int .i64 (rankI l i : Nat)) ∧ Keep w w' := by
  have hA := rAll_any a c l w hl hr hw
  have hb : (allB l).length ≤ 67108864 := by rw [allB_length]; have := cn_le l (64 * l.length); omega
  have hR := rank_all l i
  generalize rankI l i = R at *
  generalize allB l = z at *
  have Hc : Hid (∀ k, k < z.length → (z.take (k + 1)).countP (fun x : Nat => decide ((x : Int) < i)) = (z.take k).countP (fun x : Nat => decide ((x : Int) < i)) + (decide (((z.getD k 0 : Nat) : Int) < i)).toNat) := fun k hk => rank_count z i k hk
  have HR : Hid (z.countP (fun x : Nat => decide ((x : Int) < i)) = R) := hR
  clear hR
  go_enter Tryd.func40, Tryd.ntmps40
  go_wp2_with fail
  refine hA.mono ?_
  rintro e w1 ⟨v, rfl, o1, k1⟩
  obtain ⟨av, cv, rfl, hcv, rd⟩ := o1.shape
  go_wp2_with fail
  go_loop [5, 11] (fun n k => ∃ j : Nat, j ≤ z.length ∧ n = .int .i64 ((z.take j).countP (fun x : Nat => decide ((x : Int) < i)) : Nat) ∧ k = .int .i64 j) (fun _ k => z.length - (intOf k).toNat)
  case atStart => exact ⟨0, by omega, by simp, rfl⟩
  case round =>
    obtain ⟨j, hj, rfl, rfl⟩ := hrel
    by_cases hjl : j < z.length
    · obtain ⟨b, o, rfl, hc⟩ := rd j hjl
      have Hn : Hid _ := Hc.out j hjl
      have hnb : (z.take j).countP (fun x : Nat => decide ((x : Int) < i)) ≤ 67108864 := by
        have := List.countP_le_length (p := fun x : Nat => decide ((x : Int) < i)) (l := z.take j)
        rw [List.length_take] at this
        omega
      generalize z.getD j 0 = x at hc Hn
      generalize (z.take j).countP (fun x : Nat => decide ((x : Int) < i)) = N at Hn hnb ⊢
      by_cases hx : (x : Int) < i
      · rw [decide_eq_true hx] at Hn
        go_wp2_with fail
        go_round
        case rel => exact ⟨j + 1, by omega, by rw [Hn.out]; first | rfl | go_num, by go_num⟩
        case measure => simp [intOf]; omega
      · rw [decide_eq_false hx] at Hn
        go_wp2_with fail
        go_round
        case rel => exact ⟨j + 1, by omega, by rw [Hn.out]; first | rfl | go_num, by go_num⟩
        case measure => simp [intOf]; omega
    · obtain rfl : j = z.length := by omega
      rw [List.take_length]
      have HR2 := HR.out
      go_wp2_with fail
      go_ret
      exact ⟨ret_int (by first | rfl | rw [HR2]), k1⟩
end Go.Proofs.YtgmnadlmejkkpaaDoor
