import Derived.Test.YtbpfpldahmfjaaaGreatDoorX2
set_option linter.unusedVariables false
set_option linter.unusedSimpArgs false
namespace Go.Proofs.YtbpfpldahmfjaaaGreatDoor
open Go.RowKit Go.Shelf
theorem sg_back (v : Int) (hv : I64 v) : sgV (decide (v < 0)) v.natAbs = v ∧ sgE (decide (v < 0)) v.natAbs = 0 := by
  unfold I64 at hv
  unfold sgV sgE
  by_cases h : v < 0
  · rw [decide_eq_true h]
    have q : (true = true ∧ v.natAbs ≤ 9223372036854775808) := ⟨rfl, by omega⟩
    rw [if_pos q, if_pos q]
    exact ⟨by omega, rfl⟩
  · rw [decide_eq_false h]
    have q1 : ¬ (false = true ∧ v.natAbs ≤ 9223372036854775808) := by simp
    have q2 : (false = false ∧ v.natAbs < 9223372036854775808) := ⟨rfl, by omega⟩
    rw [if_neg q1, if_pos q2, if_neg q1, if_pos q2]
    exact ⟨by omega, rfl⟩
theorem sg_not (neg : Bool) (N : Nat) (h : ¬ sgE neg N = 0) : sgV neg N = 0 ∧ sgE neg N = 41 := by
  unfold sgE at h ⊢
  unfold sgV
  by_cases q1 : neg = true ∧ N ≤ 9223372036854775808
  · rw [if_pos q1] at h; exact absurd rfl h
  · rw [if_neg q1] at h ⊢
    rw [if_neg q1]
    by_cases q2 : neg = false ∧ N < 9223372036854775808
    · rw [if_pos q2] at h; exact absurd rfl h
    · rw [if_neg q2, if_neg q2]
      exact ⟨rfl, rfl⟩
theorem sg_i64 (b : Bool) (n : Nat) : I64 (sgV b n) := by
  unfold sgV I64
  split
  · omega
  · split <;> omega
/-- What Print writes is read as it was. -/
theorem read_print (v : Int) (hv : I64 v) (wx : World) : Calls Tryz.prog 7 #[.string ⟨(prt v).toArray⟩] wx fun e w' => e = .returned (.tuple #[.int .i64 v, .int .i64 0, .int .i64 0]) ∧ Keep wx w' := by
  obtain ⟨p1, p2, p3, p4⟩ := print_read v hv
  refine (Read_any (prt v) wx (by omega)).mono ?_
  rintro e w' ⟨⟨V, E, K, rfl, h⟩, k⟩
  obtain ⟨a, b, c⟩ := h.good p1
  rw [p2, p3] at a b
  obtain ⟨s1, s2⟩ := sg_back v hv
  rw [a, b, c, s1, s2]
  exact ⟨rfl, k⟩
set_option maxRecDepth 100000 in
set_option maxHeartbeats 800000 in
theorem back_bad (v : Int) (hv : I64 v) (s : List UInt8) (w : World) (hT : Tb w) (hB : Calls Tryz.prog 6 #[] w fun e w' => e = .returned (.bool true) ∧ Keep w w') (E K : Int) (hE : ¬ E = 0)
    (hS : ∀ wx, Calls Tryz.prog 7 #[.string ⟨s.toArray⟩] wx fun e w' => e = .returned (.tuple #[.int .i64 0, .int .i64 E, .int .i64 K]) ∧ Keep wx w') :
    Calls Tryz.prog 3 #[.int .i64 v, .string ⟨s.toArray⟩] w fun e w' => e = .returned (.bool true) ∧ Keep w w' := by
  have hP : ∀ wx, Keep w wx → Calls Tryz.prog 8 #[.int .i64 v] wx fun e w' => e = .returned (.string ⟨(prt v).toArray⟩) ∧ Keep wx w' := fun wx k => Print_any v wx hv (keep_tab hT k)
  have hR := read_print v hv
  have hEb : (E != 0) = true := by simpa using hE
  have hvb : (v != v) = false := by simp
  clear hE
  generalize prt v = P at hP hR
  have t1 : True := trivial
  go_enter Tryz.func3, Tryz.ntmps3
  go_wp2_with (first
    | (go_at_call 6; refine hB.mono ?_; rintro e w1 ⟨rfl, k1⟩; have K1 : Hid (Keep w w1) := k1; clear k1)
    | (go_at_call 8; refine (hP _ K1.out).mono ?_; rintro e w2 ⟨rfl, k2⟩; have K2 : Hid (Keep w w2) := K1.out.trans k2; clear k2)
    | (go_at_call 7; clear t1; refine (hR _).mono ?_; rintro e w3 ⟨rfl, k3⟩; have K3 : Hid (Keep w w3) := K2.out.trans k3; clear k3 hR)
    | (go_at_call 7; refine (hS _).mono ?_; rintro e w4 ⟨rfl, k4⟩; have K4 : Hid (Keep w w4) := K3.out.trans k4; clear k4))
  go_ret
  exact ⟨rfl, K4.out⟩
set_option maxRecDepth 100000 in
set_option maxHeartbeats 800000 in
theorem back_good (v : Int) (hv : I64 v) (s : List UInt8) (w : World) (hT : Tb w) (hB : Calls Tryz.prog 6 #[] w fun e w' => e = .returned (.bool true) ∧ Keep w w') (a K : Int) (ha : I64 a) (hm : s.length ≤ 4096)
    (hS : ∀ wx, Calls Tryz.prog 7 #[.string ⟨s.toArray⟩] wx fun e w' => e = .returned (.tuple #[.int .i64 a, .int .i64 0, .int .i64 K]) ∧ Keep wx w')
    (hO : ∀ wx, Calls Tryz.prog 9 #[.string ⟨s.toArray⟩] wx fun e w' => e = .returned (.tuple #[.int .i64 a, .int .i64 0, .int .i64 0]) ∧ Keep wx w')
    (hL : (prt a).length ≤ s.length ∨ a = 0) :
    Calls Tryz.prog 3 #[.int .i64 v, .string ⟨s.toArray⟩] w fun e w' => e = .returned (.bool true) ∧ Keep w w' := by
  have hP : ∀ wx, Keep w wx → Calls Tryz.prog 8 #[.int .i64 v] wx fun e w' => e = .returned (.string ⟨(prt v).toArray⟩) ∧ Keep wx w' := fun wx k => Print_any v wx hv (keep_tab hT k)
  have hR := read_print v hv
  have hP2 : ∀ wx, Keep w wx → Calls Tryz.prog 8 #[.int .i64 a] wx fun e w' => e = .returned (.string ⟨(prt a).toArray⟩) ∧ Keep wx w' := fun wx k => Print_any a wx ha (keep_tab hT k)
  have hR2 := read_print a ha
  have s1 : (ByteArray.mk s.toArray).size = s.length := sz_mk s
  have s2 : (ByteArray.mk (prt a).toArray).size = (prt a).length := sz_mk _
  have pl := (print_read a ha).2.2.2
  obtain ⟨L, hL1⟩ : ∃ L, s.length = L := ⟨_, rfl⟩
  obtain ⟨M, hM1⟩ : ∃ M, (prt a).length = M := ⟨_, rfl⟩
  rw [hL1] at s1 hL hm
  rw [hM1] at s2 hL pl
  have hvb : (v != v) = false := by simp
  have hab : (a != a) = false := by simp
  have hae : (a == a) = true := by simp
  generalize prt v = P at hP hR
  generalize prt a = P2 at hP2 hR2 s2 hM1
  clear hL1 hM1
  have t1 : True := trivial
  have t2 : True := trivial
  have u1 : True := trivial
  have hlast : ∃ b c : Bool, decide ((M : Int) ≤ (L : Int)) = b ∧ (a == 0) = c ∧ (b || c) = true := by
    refine ⟨_, _, rfl, rfl, ?_⟩
    rcases hL with h | h
    · rw [decide_eq_true (by omega)]; rfl
    · rw [h]; simp
  obtain ⟨b, c, hb, hc, hbc⟩ := hlast
  replace hbc : Hid ((b || c) = true) := hbc
  clear hL
  cases b <;> cases c
  · exact absurd hbc.out (by decide)
  all_goals
    go_enter Tryz.func3, Tryz.ntmps3
    go_wp2_with (first
      | (go_at_call 6; refine hB.mono ?_; rintro e w1 ⟨rfl, k1⟩; have K1 : Hid (Keep w w1) := k1; clear k1)
      | (go_at_call 8; clear u1; refine (hP _ K1.out).mono ?_; rintro e w2 ⟨rfl, k2⟩; have K2 : Hid (Keep w w2) := K1.out.trans k2; clear k2 hP)
      | (go_at_call 7; clear t1; refine (hR _).mono ?_; rintro e w3 ⟨rfl, k3⟩; have K3 : Hid (Keep w w3) := K2.out.trans k3; clear k3 hR)
      | (go_at_call 7; clear t2; refine (hS _).mono ?_; rintro e w4 ⟨rfl, k4⟩; have K4 : Hid (Keep w w4) := K3.out.trans k4; clear k4 hS)
      | (go_at_call 9; refine (hO _).mono ?_; rintro e w5 ⟨rfl, k5⟩; have K5 : Hid (Keep w w5) := K4.out.trans k5; clear k5)
      | (go_at_call 8; refine (hP2 _ K5.out).mono ?_; rintro e w6 ⟨rfl, k6⟩; have K6 : Hid (Keep w w6) := K5.out.trans k6; clear k6)
      | (go_at_call 7; refine (hR2 _).mono ?_; rintro e w7 ⟨rfl, k7⟩; have K7 : Hid (Keep w w7) := K6.out.trans k7; clear k7))
    all_goals (go_ret; exact ⟨by first | rfl | (simp; have := of_decide_eq_true hb; omega), K7.out⟩)
theorem law_back (v : Int) (hv : I64 v) (s : List UInt8) (w : World) (hT : Tb w) (hm : s.length ≤ 9223372036854775807) (hB : Calls Tryz.prog 6 #[] w fun e w' => e = .returned (.bool true) ∧ Keep w w') :
    Calls Tryz.prog 3 #[.int .i64 v, .string ⟨s.toArray⟩] w fun e w' => e = .returned (.bool true) ∧ Keep w w' := by
  by_cases hs : s.length ≤ 4096
  · by_cases hg : rGood s
    · have hS : ∀ wx, Calls Tryz.prog 7 #[.string ⟨s.toArray⟩] wx fun e w' => e = .returned (.tuple #[.int .i64 (sgV (pNg s) (rN s)), .int .i64 (sgE (pNg s) (rN s)), .int .i64 0]) ∧ Keep wx w' := fun wx => by
        refine (Read_any s wx hs).mono ?_
        rintro e w' ⟨⟨V, E, K, rfl, h⟩, k⟩
        obtain ⟨a, b, c⟩ := h.good hg
        rw [a, b, c]
        exact ⟨rfl, k⟩
      by_cases hE : sgE (pNg s) (rN s) = 0
      · have hO : ∀ wx, Calls Tryz.prog 9 #[.string ⟨s.toArray⟩] wx fun e w' => e = .returned (.tuple #[.int .i64 (sgV (pNg s) (rN s)), .int .i64 0, .int .i64 0]) ∧ Keep wx w' := fun wx => by
          refine (Rounded_any s wx hs).mono ?_
          rintro e w' ⟨⟨V, E, K, rfl, h⟩, k⟩
          obtain ⟨g1, g2⟩ := read_rounded hg
          obtain ⟨a, b, c⟩ := h.good g1
          rw [g2] at a b
          rw [a, b, c, hE]
          exact ⟨rfl, k⟩
        rw [hE] at hS
        refine back_good v hv s w hT hB _ 0 (sg_i64 _ _) hs hS hO ?_
        by_cases h0 : sgV (pNg s) (rN s) = 0
        · exact .inr h0
        · exact .inl (no_longer hg rfl hE h0)
      · have hV := (sg_not _ _ hE).1
        rw [hV] at hS
        exact back_bad v hv s w hT hB _ 0 hE hS
    · refine back_bad v hv s w hT hB 40 (pK3 6 s : Int) (by omega) fun wx => ?_
      refine (Read_any s wx hs).mono ?_
      rintro e w' ⟨⟨V, E, K, rfl, h⟩, k⟩
      obtain ⟨a, b, c⟩ := h.bad hg
      rw [a, b, c]
      exact ⟨rfl, k⟩
  · exact back_bad v hv s w hT hB 4 0 (by omega) fun wx => Read_long s wx hs hm
end Go.Proofs.YtbpfpldahmfjaaaGreatDoor
