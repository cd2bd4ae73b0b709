import Derived.Test.YtgmnadlmejkkpaaDoorG1
set_option linter.unusedVariables false
set_option linter.unusedSimpArgs false
namespace Go.Proofs.YtgmnadlmejkkpaaDoor
open Go.RowKit
/-- What is asked at the end. -/
theorem meets_cases (l m : List Nat) (n fr to : Nat) (i : Int) (hm : mkl n (fun j => !decide (fr ≤ j ∧ j < to)) m) (h : l.length = m.length) :
    (hasI l i = false ∧ hasI (zw (fun x y => x &&& y) l m) i = false) ∨
    (0 ≤ i ∧ hasI l i = true ∧ ¬ i < n ∧ hasI (zw (fun x y => x &&& y) l m) i = false) ∨
    (0 ≤ i ∧ hasI l i = true ∧ i < n ∧ i < fr ∧ hasI (zw (fun x y => x &&& y) l m) i = true) ∨
    (0 ≤ i ∧ hasI l i = true ∧ i < n ∧ ¬ i < fr ∧ to ≤ i ∧ hasI (zw (fun x y => x &&& y) l m) i = true) ∨
    (0 ≤ i ∧ hasI l i = true ∧ i < n ∧ ¬ i < fr ∧ ¬ to ≤ i ∧ hasI (zw (fun x y => x &&& y) l m) i = false) := by
  rw [hasI_and h]
  cases hq : hasI l i
  · left; exact ⟨rfl, rfl⟩
  · right
    have h0 : 0 ≤ i := by unfold hasI at hq; simp at hq; exact hq.1
    have e : hasI m i = (decide (i.toNat < n) && !decide (fr ≤ i.toNat ∧ i.toNat < to)) := by
      unfold hasI; rw [hm.2.2, decide_eq_true h0, Bool.true_and]
    rw [e, Bool.true_and]
    by_cases h1 : i < n
    · right
      rw [decide_eq_true (p := i.toNat < n) (by omega), Bool.true_and]
      by_cases h2 : i < fr
      · left; exact ⟨h0, rfl, h1, h2, by rw [decide_eq_false (by omega)]; rfl⟩
      · right
        by_cases h3 : to ≤ i
        · left; exact ⟨h0, rfl, h1, h2, h3, by rw [decide_eq_false (by omega)]; rfl⟩
        · right; exact ⟨h0, rfl, h1, h2, h3, by rw [decide_eq_true (by omega)]; rfl⟩
    · left; exact ⟨h0, rfl, h1, by rw [decide_eq_false (by omega)]; rfl⟩
set_option maxRecDepth 100000 in
set_option maxHeartbeats 2000000 in
theorem meets_ok (a : Option Addr) (ca : Nat) (l : List Nat) (n fr to : Nat) (i : Int) (w : World) (hca : l.length ≤ ca) (hl : l.length ≤ 17592186043904) (ha : Rd w a l) (hwl : W64 l) (hn : n ≤ 1048576) (hab : fr ≤ to) (hbn : to ≤ n) (hi : i ≤ 9223372036854775807) (hT : Tab w) :
    Calls Tryd.prog 10 #[.slice a l.length ca, .int .i64 (n : Nat), .int .i64 (fr : Nat), .int .i64 (to : Nat), .int .i64 i] w fun e w' => e = .returned (.bool true) ∧ Keep w w' := by
  have hL := lives_any w hT
  have hM := fun w => Mask_ok n fr to w hn hab hbn
  have hC := fun wx (k : Keep w wx) => copied_any a ca l wx (by omega) hca (ha.keep k)
  have hHa := fun wx (k : Keep w wx) => Has_any a ca l i wx (by omega) hi (ha.keep k) hwl
  have hCa := fun wx (k : Keep w wx) => Count_any a ca l wx (by omega) (ha.keep k) hwl
  go_enter Tryd.func10, Tryd.ntmps10
  go_wp2_with fail
  refine hL.mono ?_
  rintro e w1 ⟨rfl, k1⟩
  go_wp2_with fail
  refine (hM w1).mono ?_
  rintro e w2 ⟨m, rfl, hr2, hm2, k2⟩
  have t2 := k1.trans k2
  clear hL hM
  go_wp2_with fail
  refine (hC w2 t2).mono ?_
  rintro e w3 ⟨vb, rfl, ob, k3⟩
  have t3 := t2.trans k3
  obtain ⟨aB, cB, rfl, hMt⟩ := Meet_mask w1.heap.size m.length hr2 ob k3 (by omega) hwl hm2.2.1
  have hlm2 : m.length ≤ 16384 := by rw [hm2.1]; omega
  go_wp2_with fail
  refine hMt.mono ?_
  rintro e w4 ⟨rfl, rB, k4⟩
  have t4 := t2.trans k4
  clear hC hMt
  by_cases hlm : l.length = m.length
  · have rB' := rB hlm
    have hz := zw_length (fun x y => x &&& y) hlm
    have hwz : W64 (zw (fun x y => x &&& y) l m) := zw_w64 does_and hwl hm2.2.1
    have hHb := Has_any aB cB (zw (fun x y => x &&& y) l m) i w4 (by omega) hi rB' hwz
    have hCb := Count_any aB cB (zw (fun x y => x &&& y) l m) w4 (by omega) rB' hwz
    have hcs := meets_cases l m n fr to i hm2 hlm
    have hcn := cn_and hlm (64 * l.length)
    rw [hz] at hHb hCb
    have hHa4 := hHa w4 t4
    have hCa4 := hCa w4 t4
    have e0 : ansE l m = 0 := by unfold ansE; rw [if_pos hlm]
    rw [e0]
    have hcn' : ((cn (zw (fun x y => x &&& y) l m) (64 * l.length) : Nat) : Int) ≤ ((cn l (64 * l.length) : Nat) : Int) := by omega
    generalize hasI (zw (fun x y => x &&& y) l m) i = P at hHb hcs
    generalize hasI l i = Q at hHa4 hcs
    generalize cn (zw (fun x y => x &&& y) l m) (64 * l.length) = N1 at hCb hcn hcn'
    generalize cn l (64 * l.length) = N2 at hCa4 hcn hcn'
    clear hHa hCa rB rB' hwz hz e0 hcn hlm hlm2
    rcases hcs with ⟨rfl, rfl⟩ | ⟨h0, rfl, h1, rfl⟩ | ⟨h0, rfl, h1, h2, rfl⟩ | ⟨h0, rfl, h1, h2, h3, rfl⟩ | ⟨h0, rfl, h1, h2, h3, rfl⟩
    all_goals
      go_wp2_with first
        | (go_at_call 31; first | (refine hHb.mono ?_; clear hHb; rintro e w' ⟨rfl, rfl⟩) | (refine hHa4.mono ?_; clear hHa4; rintro e w' ⟨rfl, rfl⟩))
        | (go_at_call 37; first | (refine hCb.mono ?_; clear hCb; rintro e w' ⟨rfl, rfl⟩) | (refine hCa4.mono ?_; clear hCa4; rintro e w' ⟨rfl, rfl⟩))
      go_ret
      first | exact ⟨rfl, t4⟩ | exact ⟨ret_bool (by simp only [decide_eq_false h2, decide_eq_false h3]; rfl), t4⟩ | exact ⟨ret_bool (by simp; omega), t4⟩
  · have e0 : ansE l m = 6 := by unfold ansE; rw [if_neg hlm]
    rw [e0]
    have hne : ((l.length : Int) != (m.length : Int)) = true := by rw [bne_iff_ne]; omega
    clear hHa hCa rB
    go_wp2_with fail
    go_ret
    exact ⟨rfl, t4⟩
theorem law_meets (a : Option Addr) (ca : Nat) (l : List Nat) (n fr to i : Int) (w : World) (hca : l.length ≤ ca) (hl : l.length ≤ 17592186043904) (ha : Rd w a l) (hwl : W64 l) (hi : i ≤ 9223372036854775807) (hT : Tab w) :
    Calls Tryd.prog 10 #[.slice a l.length ca, .int .i64 n, .int .i64 fr, .int .i64 to, .int .i64 i] w fun e w' => e = .returned (.bool true) ∧ Keep w w' := by
  by_cases h : mno n fr to
  · exact meets_no a ca l n fr to i w h hT
  · unfold mno at h
    obtain ⟨n', rfl⟩ := Int.eq_ofNat_of_zero_le (show 0 ≤ n by omega)
    obtain ⟨x, rfl⟩ := Int.eq_ofNat_of_zero_le (show 0 ≤ fr by omega)
    obtain ⟨y, rfl⟩ := Int.eq_ofNat_of_zero_le (show 0 ≤ to by omega)
    exact meets_ok a ca l n' x y i w hca hl ha hwl (by omega) (by omega) (by omega) hi hT
end Go.Proofs.YtgmnadlmejkkpaaDoor
