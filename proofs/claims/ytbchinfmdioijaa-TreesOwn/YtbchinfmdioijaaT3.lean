import Derived.Test.YtbchinfmdioijaaT2
set_option linter.unusedVariables false
set_option linter.unusedSimpArgs false
namespace Go.Proofs.Ytbchinfmdioijaa
open Go.RowKit
set_option maxRecDepth 100000 in
theorem rCats_any (a : Option Addr) (c : Nat) (l : List Int) (w : World) (hl : l.length ≤ 17592186044416) (hr : RdI w a l) :
    Calls Try.prog 77 #[.slice a l.length c] w fun e w' => e = .returned (.bool (catsB l)) ∧ w' = w := by
  go_enter Try.func77, Try.ntmps77
  go_wp2
  go_loop [7] (fun i => ∃ k : Nat, k ≤ l.length ∧ i = .int .i64 k ∧ Hid (∀ i, i < k → (0 ≤ l.getD i 0 ∧ l.getD i 0 < 1024 ∧ (0 < i → l.getD (i - 1) 0 < l.getD i 0)))) (fun i => l.length - (intOf i).toNat)
  case atStart => exact ⟨0, by omega, rfl, by intro i hi; omega⟩
  case round =>
    obtain ⟨k, hk, rfl, hinv⟩ := hrel
    by_cases hkl : k < l.length
    · obtain ⟨b, o, rfl, hc⟩ := hr k hkl
      obtain ⟨x, hx⟩ : ∃ x, l.getD k 0 = x := ⟨_, rfl⟩
      rw [hx] at hc
      have Hx : Hid (l.getD k 0 = x) := hx
      clear hx
      by_cases hg : 0 ≤ x ∧ x < 1024 ∧ (0 < k → l.getD (k - 1) 0 < x)
      · obtain ⟨g1, g2, g3⟩ := hg
        have hn : Hid (∀ i, i < k + 1 → (0 ≤ l.getD i 0 ∧ l.getD i 0 < 1024 ∧ (0 < i → l.getD (i - 1) 0 < l.getD i 0))) := by
          intro i hi
          by_cases e : i = k
          · subst e; rw [Hx.out]; exact ⟨g1, g2, g3⟩
          · exact hinv.out i (by omega)
        by_cases hk0 : 0 < k
        · obtain ⟨b', o', e', hc'⟩ := hr (k - 1) (by omega)
          simp only [Option.some.injEq, Addr.mk.injEq, and_true] at e'
          obtain ⟨rfl, rfl⟩ := e'
          have g4 := g3 hk0
          obtain ⟨y, hy⟩ : ∃ y, l.getD (k - 1) 0 = y := ⟨_, rfl⟩
          rw [hy] at hc' g4
          clear hy g3
          go_wp2
          go_round
          case rel => exact ⟨k + 1, by omega, by go_num, hn⟩
          case measure => simp [intOf]; omega
        · have e0 : k = 0 := by omega
          subst e0
          clear g3
          rw [Nat.add_zero] at hc
          go_wp2
          go_round
          case rel => exact ⟨1, by omega, by go_num, hn⟩
          case measure => simp [intOf]; omega
      · have hf : Hid (¬ Cats l) := by
          intro h
          have := h.2 k hkl
          rw [Hx.out] at this
          exact hg this
        by_cases g1 : 0 ≤ x
        · by_cases g2 : x < 1024
          · have hk0 : 0 < k := by
              rcases Nat.eq_zero_or_pos k with e | e
              · exact absurd ⟨g1, g2, fun h => by omega⟩ hg
              · exact e
            have g4 : ¬ l.getD (k - 1) 0 < x := fun h => hg ⟨g1, g2, fun _ => h⟩
            obtain ⟨b', o', e', hc'⟩ := hr (k - 1) (by omega)
            simp only [Option.some.injEq, Addr.mk.injEq, and_true] at e'
            obtain ⟨rfl, rfl⟩ := e'
            obtain ⟨y, hy⟩ : ∃ y, l.getD (k - 1) 0 = y := ⟨_, rfl⟩
            rw [hy] at hc' g4
            clear hy hg
            go_wp2
            go_ret
            exact ⟨ret_bool (catsB_no hf.out).symm, rfl⟩
          · clear hg
            go_wp2
            go_ret
            exact ⟨ret_bool (catsB_no hf.out).symm, rfl⟩
        · clear hg
          go_wp2
          go_ret
          exact ⟨ret_bool (catsB_no hf.out).symm, rfl⟩
    · have hke : k = l.length := by omega
      have hR : Hid (catsB l = decide (0 < l.length)) := by
        show _ = _
        rw [Bool.eq_iff_iff, decide_eq_true_eq, catsB_iff]
        have := hinv.out
        rw [hke] at this
        exact ⟨fun h => by have := h.1; omega, fun h => ⟨by omega, this⟩⟩
      clear hke
      go_wp2
      go_ret
      exact ⟨ret_bool hR.out.symm, rfl⟩

set_option maxRecDepth 100000 in
set_option maxHeartbeats 1000000 in
theorem rnode_any (w : World) (n : Nd) (N : Nat) (ca : Option Addr) (cap : Nat) (hsz : n.cs.length ≤ 17592186044416) (hrd : RdI w ca n.cs) :
    Calls Try.prog 45 #[n.v ca cap, .int .i64 (N : Nat)] w fun e w' => e = .returned (.bool (rightB n N)) ∧ Keep w w' := by
  unfold Nd.v
  have hb := f64bits n.th
  have hN := fun wx => rnan_any n.th wx
  have hC := fun (wx : World) (k : Keep w wx) => rCats_any ca cap n.cs wx hsz (hrd.keep k)
  have k0 := fun o => (Keep.refl w).alloc o
  have HR : Hid (rightB n N = (if n.kd = 1 then decide (n.ft = 0) && (decide (n.th = 0) && decide (n.cs.length = 0)) && decide (n.ms = 0) && decide (n.lf = 0) && decide (n.rt = 0)
    else if n.kd = 2 then decide (n.vl = 0 ∧ 0 ≤ n.ft ∧ n.ft < 65536 ∧ (n.ms = 1 ∨ n.ms = 2) ∧ (1 ≤ n.lf ∧ n.lf < (N : Int)) ∧ (1 ≤ n.rt ∧ n.rt < (N : Int))) && !nanB n.th && decide (n.cs.length = 0)
    else if n.kd = 3 then decide (n.vl = 0 ∧ 0 ≤ n.ft ∧ n.ft < 65536 ∧ (n.ms = 1 ∨ n.ms = 2) ∧ (1 ≤ n.lf ∧ n.lf < (N : Int)) ∧ (1 ≤ n.rt ∧ n.rt < (N : Int))) && decide (n.th = 0) && catsB n.cs
    else false)) := rfl
  generalize rightB n N = R at HR ⊢
  generalize nanB n.th = nn at *
  generalize catsB n.cs = cc at *
  obtain ⟨kd, vl, ft, th, cs, ms, lf, rt⟩ := n
  simp only at *
  by_cases k1 : kd = 1
  · subst k1
    rw [if_pos rfl] at HR
    go_enter Try.func45, Try.ntmps45
    go_wp2_with fail
    all_goals
      go_ret
      refine ⟨ret_bool ?_, k0 _⟩
      rw [HR.out]
      clear HR hC hN hb k0
      simp_all
      try first | rfl | omega | (rw [Bool.eq_iff_iff]; simp; done) | grind
  · rw [if_neg k1] at HR
    have q1 : ((kd : Int) == 1) = false := by rw [beq_eq_false_iff_ne]; omega
    by_cases k2 : kd = 2
    · subst k2
      rw [if_pos rfl] at HR
      go_enter Try.func45, Try.ntmps45
      go_wp2_with (go_at_call 55; refine (hN _).mono ?_; rintro e w' ⟨rfl, rfl⟩)
      all_goals
        go_ret
        refine ⟨ret_bool ?_, k0 _⟩
        rw [HR.out]
        clear HR hC hN hb k0 q1
        grind
    · rw [if_neg k2] at HR
      have q2 : ((kd : Int) == 2) = false := by rw [beq_eq_false_iff_ne]; omega
      by_cases k3 : kd = 3
      · subst k3
        rw [if_pos rfl] at HR
        go_enter Try.func45, Try.ntmps45
        go_wp2_with (go_at_call 77; refine (hC _ (k0 _)).mono ?_; rintro e w' ⟨rfl, rfl⟩)
        all_goals
          go_ret
          refine ⟨ret_bool ?_, k0 _⟩
          rw [HR.out]
          clear HR hC hN hb k0 q1 q2
          grind
      · rw [if_neg k3] at HR
        have q3 : ((kd : Int) == 3) = false := by rw [beq_eq_false_iff_ne]; omega
        go_enter Try.func45, Try.ntmps45
        go_wp2_with fail
        go_ret
        exact ⟨ret_bool HR.out.symm, k0 _⟩
end Go.Proofs.Ytbchinfmdioijaa
