import Derived.Test.YtpdjpjkieafnbaaGreatDoorZA
set_option linter.unusedVariables false
set_option linter.unusedSimpArgs false
namespace Go.Proofs.YtpdjpjkieafnbaaGreatDoor.Li
open Go.RowKit Go.Shelf
theorem qisDigit_any (c : UInt8) (w : World) : Calls Tryz.prog 94 #[.int .u8 (c.toNat : Int)] w fun e w' => e = .returned (.bool (isD c)) ∧ w = w' := by
  obtain ⟨x, hx⟩ : ∃ x, c.toNat = x := ⟨_, rfl⟩
  obtain ⟨b1, e1⟩ : ∃ b, decide ((48 : Int) ≤ (x : Int)) = b := ⟨_, rfl⟩
  obtain ⟨b2, e2⟩ : ∃ b, decide ((x : Int) ≤ 57) = b := ⟨_, rfl⟩
  have H : Hid (isD c = (b1 && b2)) := by
    unfold Hid isD
    rw [hx, ← e1, ← e2, ← Bool.decide_and]
    congr 1
    apply propext
    omega
  rw [hx]
  generalize isD c = v at *
  cases b1 <;> cases b2 <;> (go_enter Tryz.func94, Tryz.ntmps94; go_wp2_with fail; go_ret; exact ⟨by rw [H.out]; rfl, rfl⟩)
/-- How the reference goes through a power's text. -/
def pwF (l : List UInt8) : Nat := l.foldl (fun n b => if isD b = true ∧ n < 100000 then 10 * n + dv b else n) 0
theorem pwF_step (l : List UInt8) (i : Nat) (h : i < l.length) : pwF (l.take (i + 1)) = if isD (l.getD i 0) = true ∧ pwF (l.take i) < 100000 then 10 * pwF (l.take i) + dv (l.getD i 0) else pwF (l.take i) := by
  have e : l.take (i + 1) = l.take i ++ [l.getD i 0] := by
    rw [List.take_add_one]; simp [List.getD, List.getElem?_eq_getElem h]
  rw [e]
  unfold pwF
  rw [List.foldl_append]
  rfl
theorem pwF_le (l : List UInt8) : ∀ n, n ≤ 1000000 → l.foldl (fun n b => if isD b = true ∧ n < 100000 then 10 * n + dv b else n) n ≤ 1000000 := by
  induction l with
  | nil => intro n h; exact h
  | cons b l ih =>
    intro n h
    rw [List.foldl_cons]
    apply ih
    by_cases q : isD b = true ∧ n < 100000
    · rw [if_pos q]
      have := dv_lt q.1
      omega
    · rw [if_neg q]
      exact h
theorem fold_far (l : List UInt8) (n : Nat) (h : 100000 ≤ n) : l.foldl (fun n b => if isD b = true ∧ n < 100000 then 10 * n + dv b else n) n = n := by
  induction l with
  | nil => rfl
  | cons b l ih => rw [List.foldl_cons, if_neg (by omega)]; exact ih
theorem fold_cap (l : List UInt8) (hd : allD l) : ∀ n, min (l.foldl (fun n b => if isD b = true ∧ n < 100000 then 10 * n + dv b else n) n) 100000 = min (l.foldl (fun n b => 10 * n + dv b) n) 100000 := by
  induction l with
  | nil => intro n; rfl
  | cons b l ih =>
    intro n
    rw [List.foldl_cons, List.foldl_cons]
    have hb := hd b List.mem_cons_self
    have hl : allD l := fun x hx => hd x (List.mem_cons_of_mem _ hx)
    by_cases q : n < 100000
    · rw [if_pos ⟨hb, q⟩]
      exact ih hl _
    · rw [if_neg (by omega), fold_far l n (by omega), fold_nat]
      have h1 : 1 ≤ 10 ^ l.length := Nat.pow_pos (by omega)
      have h2 : (10 * n + dv b) * 1 ≤ (10 * n + dv b) * 10 ^ l.length := Nat.mul_le_mul_left _ h1
      omega
theorem pwF_digits {l : List UInt8} (hd : allD l) : min (pwF l) 100000 = min (nat l) 100000 := fold_cap l hd 0
theorem pwF_sign {c : UInt8} {l : List UInt8} (hc : isD c = false) : pwF (c :: l) = pwF l := by
  unfold pwF
  rw [List.foldl_cons, if_neg (by rw [hc]; simp)]
set_option maxRecDepth 100000 in
set_option maxHeartbeats 2000000 in
theorem rpower_any (l : List UInt8) (w : World) (hl : l.length ≤ 4096) (ng : Bool) (hng : tk l [45] 0 = ng) (N : Nat) (hN : min (pwF l) 100000 = N) :
    Calls Tryz.prog 49 #[.string ⟨l.toArray⟩, .int .i64 100000] w fun e w' => e = .returned (.int .i64 (if ng then -(N : Int) else (N : Int))) ∧ w = w' := by
  have s1 : (ByteArray.mk l.toArray).size = l.length := sz_mk l
  obtain ⟨L, hL⟩ : ∃ L, l.length = L := ⟨_, rfl⟩
  rw [hL] at s1 hl
  have HL : Hid (l.length = L) := hL
  have HN : Hid (min (pwF l) 100000 = N) := hN
  by_cases h0 : 0 < L
  · have hix0 : ∀ wx, (Instr.index 9 (.string ⟨l.toArray⟩) (.int .i64 0)).run Tryz.prog wx = .ok (.int .u8 ((l.getD 0 0).toNat : Nat)) wx := fun wx => run_ix l 0 (by omega) wx
    obtain ⟨c0, hc0⟩ : ∃ c0, (l.getD 0 0).toNat = c0 := ⟨_, rfl⟩
    rw [hc0] at hix0
    have hcI : ((c0 : Int) == 45) = ng := by
      rw [← hng]
      unfold tk
      by_cases q : l.getD 0 0 = 45
      · rw [q] at hc0 ⊢
        have : c0 = 45 := by rw [← hc0]; rfl
        subst this
        simp [hL, h0]
      · have q2 : c0 ≠ 45 := fun e => q (UInt8.toNat_inj.1 (by rw [hc0, e]; rfl))
        have a2 : ((c0 : Int) == 45) = false := by
          have : ¬ (c0 : Int) = 45 := by omega
          simpa using this
        rw [a2]
        symm
        apply decide_eq_false
        rintro ⟨-, a⟩
        exact q (by simpa using a)
    have hL2 : (0 : Int) < (L : Int) := by omega
    clear hng hN hL hc0
    cases ng
    · go_enter Tryz.func49, Tryz.ntmps49
      go_wp2_with fail
      go_loopg [6, 7] (L) (fun g v6 v7 wx => ∃ i n : Nat, i + g = L ∧ n = pwF (l.take i) ∧ n ≤ 1000000 ∧ v6 = .int .i64 (n : Int) ∧ v7 = .int .i64 (i : Int) ∧ wx = w)
      case atStart => exact ⟨0, 0, by omega, rfl, by omega, rfl, rfl, rfl⟩
      case round =>
        obtain ⟨i, n, hig, hn, hle, rfl, rfl, rfl⟩ := hrel
        replace hn : Hid _ := hn
        by_cases hil : i < L
        · have hil2 : i < l.length := by have := HL.out; omega
          have hix := fun wx => run_ix l i hil2 wx
          have hst := pwF_step l i hil2
          rw [← hn.out] at hst
          have hle2 : pwF (l.take (i + 1)) ≤ 1000000 := pwF_le _ 0 (by omega)
          obtain ⟨c, hc⟩ : ∃ c, l.getD i 0 = c := ⟨_, rfl⟩
          rw [hc] at hix hst
          have hI := fun wx => qisDigit_any c wx
          have hile : (i : Int) < (L : Int) := by omega
          by_cases hd : isD c = true
          · rw [hd] at hI
            by_cases hn5 : n < 100000
            · rw [if_pos ⟨hd, hn5⟩] at hst
              have hn5I : (n : Int) < 100000 := by omega
              have hdb := hd
              unfold isD at hdb
              obtain ⟨hb1, hb2⟩ := of_decide_eq_true hdb
              unfold dv at hst
              obtain ⟨x, hx⟩ : ∃ x, c.toNat = x := ⟨_, rfl⟩
              rw [hx] at hix hI hst hb1 hb2
              have w1 : IntKind.u8.wrap ((x : Int) - 48) = ((x - 48 : Nat) : Int) := by
                rw [show (x : Int) - 48 = ((x - 48 : Nat) : Int) by omega]
                obtain ⟨z, hz⟩ : ∃ z, x - 48 = z := ⟨_, rfl⟩
                have : z ≤ 9 := by omega
                rw [hz]
                obtain rfl | rfl | rfl | rfl | rfl | rfl | rfl | rfl | rfl | rfl : z = 0 ∨ z = 1 ∨ z = 2 ∨ z = 3 ∨ z = 4 ∨ z = 5 ∨ z = 6 ∨ z = 7 ∨ z = 8 ∨ z = 9 := by omega
                all_goals rfl
              obtain ⟨y, hy⟩ : ∃ y, x - 48 = y := ⟨_, rfl⟩
              rw [hy] at w1 hst
              have hy9 : y ≤ 9 := by omega
              rw [hst] at hle2
              replace hst : Hid _ := hst
              clear hx hy hc hd hdb hil2
              go_wp2_with (go_at_call 94; refine (hI _).mono ?_; rintro e w2 ⟨rfl, rfl⟩)
              go_roundg (gk - 1)
              case measure => omega
              case rel => exact ⟨i + 1, 10 * n + y, by omega, hst.out.symm, by omega, by simp, by simp, rfl⟩
            · rw [if_neg (fun q => hn5 q.2)] at hst
              have hn5I : decide ((n : Int) < 100000) = false := decide_eq_false (by omega)
              replace hst : Hid _ := hst
              replace hle : Hid _ := hle
              clear hc hd hil2 hle2 hn5
              go_wp2_with (go_at_call 94; refine (hI _).mono ?_; rintro e w2 ⟨rfl, rfl⟩)
              go_roundg (gk - 1)
              case measure => omega
              case rel => exact ⟨i + 1, n, by omega, hst.out.symm, hle.out, by simp, by simp, rfl⟩
          · have hd2 : isD c = false := by simpa using hd
            rw [if_neg (fun q => hd q.1)] at hst
            rw [hd2] at hI
            replace hst : Hid _ := hst
            clear hc hd hd2 hil2 hle2
            go_wp2_with (go_at_call 94; refine (hI _).mono ?_; rintro e w2 ⟨rfl, rfl⟩)
            go_roundg (gk - 1)
            case measure => omega
            case rel => exact ⟨i + 1, n, by omega, hst.out.symm, hle, by simp, by simp, rfl⟩
        · obtain rfl : i = L := by omega
          have hile : ¬ (i : Int) < (i : Int) := by omega
          have hn2 : n = pwF l := by rw [hn.out, ← HL.out, List.take_length]
          have hN2 := HN.out
          rw [← hn2] at hN2
          by_cases hb : (100000 : Int) < (n : Int)
          · have hN3 : N = 100000 := by omega
            replace hN3 : Hid _ := hN3
            clear hN2 hn2
            go_wp2_with fail
            go_ret
            exact ⟨by rw [hN3.out]; rfl, rfl⟩
          · have hN3 : N = n := by omega
            replace hN3 : Hid _ := hN3
            clear hN2 hn2
            go_wp2_with fail
            go_ret
            exact ⟨by rw [hN3.out]; rfl, rfl⟩
    · go_enter Tryz.func49, Tryz.ntmps49
      go_wp2_with fail
      go_loopg [6, 7] (L) (fun g v6 v7 wx => ∃ i n : Nat, i + g = L ∧ n = pwF (l.take i) ∧ n ≤ 1000000 ∧ v6 = .int .i64 (n : Int) ∧ v7 = .int .i64 (i : Int) ∧ wx = w)
      case atStart => exact ⟨0, 0, by omega, rfl, by omega, rfl, rfl, rfl⟩
      case round =>
        obtain ⟨i, n, hig, hn, hle, rfl, rfl, rfl⟩ := hrel
        replace hn : Hid _ := hn
        by_cases hil : i < L
        · have hil2 : i < l.length := by have := HL.out; omega
          have hix := fun wx => run_ix l i hil2 wx
          have hst := pwF_step l i hil2
          rw [← hn.out] at hst
          have hle2 : pwF (l.take (i + 1)) ≤ 1000000 := pwF_le _ 0 (by omega)
          obtain ⟨c, hc⟩ : ∃ c, l.getD i 0 = c := ⟨_, rfl⟩
          rw [hc] at hix hst
          have hI := fun wx => qisDigit_any c wx
          have hile : (i : Int) < (L : Int) := by omega
          by_cases hd : isD c = true
          · rw [hd] at hI
            by_cases hn5 : n < 100000
            · rw [if_pos ⟨hd, hn5⟩] at hst
              have hn5I : (n : Int) < 100000 := by omega
              have hdb := hd
              unfold isD at hdb
              obtain ⟨hb1, hb2⟩ := of_decide_eq_true hdb
              unfold dv at hst
              obtain ⟨x, hx⟩ : ∃ x, c.toNat = x := ⟨_, rfl⟩
              rw [hx] at hix hI hst hb1 hb2
              have w1 : IntKind.u8.wrap ((x : Int) - 48) = ((x - 48 : Nat) : Int) := by
                rw [show (x : Int) - 48 = ((x - 48 : Nat) : Int) by omega]
                obtain ⟨z, hz⟩ : ∃ z, x - 48 = z := ⟨_, rfl⟩
                have : z ≤ 9 := by omega
                rw [hz]
                obtain rfl | rfl | rfl | rfl | rfl | rfl | rfl | rfl | rfl | rfl : z = 0 ∨ z = 1 ∨ z = 2 ∨ z = 3 ∨ z = 4 ∨ z = 5 ∨ z = 6 ∨ z = 7 ∨ z = 8 ∨ z = 9 := by omega
                all_goals rfl
              obtain ⟨y, hy⟩ : ∃ y, x - 48 = y := ⟨_, rfl⟩
              rw [hy] at w1 hst
              have hy9 : y ≤ 9 := by omega
              rw [hst] at hle2
              replace hst : Hid _ := hst
              clear hx hy hc hd hdb hil2
              go_wp2_with (go_at_call 94; refine (hI _).mono ?_; rintro e w2 ⟨rfl, rfl⟩)
              go_roundg (gk - 1)
              case measure => omega
              case rel => exact ⟨i + 1, 10 * n + y, by omega, hst.out.symm, by omega, by simp, by simp, rfl⟩
            · rw [if_neg (fun q => hn5 q.2)] at hst
              have hn5I : decide ((n : Int) < 100000) = false := decide_eq_false (by omega)
              replace hst : Hid _ := hst
              replace hle : Hid _ := hle
              clear hc hd hil2 hle2 hn5
              go_wp2_with (go_at_call 94; refine (hI _).mono ?_; rintro e w2 ⟨rfl, rfl⟩)
              go_roundg (gk - 1)
              case measure => omega
              case rel => exact ⟨i + 1, n, by omega, hst.out.symm, hle.out, by simp, by simp, rfl⟩
          · have hd2 : isD c = false := by simpa using hd
            rw [if_neg (fun q => hd q.1)] at hst
            rw [hd2] at hI
            replace hst : Hid _ := hst
            clear hc hd hd2 hil2 hle2
            go_wp2_with (go_at_call 94; refine (hI _).mono ?_; rintro e w2 ⟨rfl, rfl⟩)
            go_roundg (gk - 1)
            case measure => omega
            case rel => exact ⟨i + 1, n, by omega, hst.out.symm, hle, by simp, by simp, rfl⟩
        · obtain rfl : i = L := by omega
          have hile : ¬ (i : Int) < (i : Int) := by omega
          have hn2 : n = pwF l := by rw [hn.out, ← HL.out, List.take_length]
          have hN2 := HN.out
          rw [← hn2] at hN2
          by_cases hb : (100000 : Int) < (n : Int)
          · have hN3 : N = 100000 := by omega
            replace hN3 : Hid _ := hN3
            clear hN2 hn2
            go_wp2_with fail
            go_ret
            exact ⟨by rw [hN3.out]; rfl, rfl⟩
          · have hN3 : N = n := by omega
            replace hN3 : Hid _ := hN3
            clear hN2 hn2
            go_wp2_with fail
            go_ret
            exact ⟨by rw [hN3.out]; rfl, rfl⟩
  · obtain rfl : L = 0 := by omega
    have hng0 : ng = false := by
      rw [← hng]
      unfold tk
      apply decide_eq_false
      rintro ⟨a, -⟩
      omega
    subst hng0
    have hl0 : l = [] := List.length_eq_zero_iff.1 hL
    have hN0 : Hid (N = 0) := by rw [← hN, hl0]; rfl
    clear hng hN hL
    go_enter Tryz.func49, Tryz.ntmps49
    go_wp2_with fail
    go_loopg [6, 7] (0) (fun g v6 v7 wx => v6 = .int .i64 0 ∧ v7 = .int .i64 0 ∧ wx = w)
    case atStart => exact ⟨rfl, rfl, rfl⟩
    case round =>
      obtain ⟨rfl, rfl, rfl⟩ := hrel
      go_wp2_with fail
      go_ret
      exact ⟨by rw [hN0.out]; rfl, rfl⟩
end Go.Proofs.YtpdjpjkieafnbaaGreatDoor.Li
set_option linter.unusedVariables false
set_option linter.unusedSimpArgs false
namespace Go.Proofs.YtpdjpjkieafnbaaGreatDoor.Li
open Go.RowKit Go.Shelf
set_option maxRecDepth 100000 in
set_option maxHeartbeats 1000000 in
/-- The reference's hexadecimal. -/
theorem hexv_any (c : UInt8) (w : World) : Calls Tryz.prog 48 #[.int .u8 (c.toNat : Int)] w fun e w' => e = .returned (.int .i64 (dgO c.toNat)) ∧ w = w' := by
  have hI := fun wx => qisDigit_any c wx
  have hD : isD c = decide (48 ≤ c.toNat ∧ c.toNat ≤ 57) := rfl
  have hlt := c.toNat_lt
  have hO : dgO c.toNat = if 48 ≤ c.toNat ∧ c.toNat ≤ 57 then (c.toNat : Int) - 48 else if 97 ≤ c.toNat ∧ c.toNat ≤ 102 then (c.toNat : Int) - 87 else if 65 ≤ c.toNat ∧ c.toNat ≤ 70 then (c.toNat : Int) - 55 else -1 := rfl
  generalize dgO c.toNat = V at *
  generalize isD c = B at *
  generalize c.toNat = x at *
  by_cases h1 : 48 ≤ x ∧ x ≤ 57
  · rw [if_pos h1] at hO
    rw [decide_eq_true h1] at hD
    subst hD
    have w1 : IntKind.u8.wrap ((x : Int) - 48) = (x : Int) - 48 := by rw [IntKind.wrap_u8]; omega
    subst hO
    go_enter Tryz.func48, Tryz.ntmps48
    go_wp2_with (go_at_call 94; refine (hI _).mono ?_; rintro e w2 ⟨rfl, rfl⟩)
    go_ret
    exact ⟨by first | rfl | (rw [w1]; rfl) | (simp [w1]), rfl⟩
  · rw [if_neg h1] at hO
    rw [decide_eq_false h1] at hD
    subst hD
    by_cases h2 : 97 ≤ x
    · have d2 : decide ((97 : Int) ≤ (x : Int)) = true := decide_eq_true (by omega)
      by_cases h3 : x ≤ 102
      · have d3 : decide ((x : Int) ≤ 102) = true := decide_eq_true (by omega)
        rw [if_pos ⟨h2, h3⟩] at hO
        have w1 : IntKind.u8.wrap ((x : Int) - 97) = (x : Int) - 97 := by rw [IntKind.wrap_u8]; omega
        have w2 : wrap64 ((x : Int) - 97 + 10) = V := by rw [hO, show (x : Int) - 97 + 10 = (x : Int) - 87 by omega]; exact IntWalk.wrap64_in _ (by omega)
        have w3 : (x : Int) - 97 + 10 = V := by omega
        clear hO
        go_enter Tryz.func48, Tryz.ntmps48
        go_wp2_with (go_at_call 94; refine (hI _).mono ?_; rintro e w2 ⟨rfl, rfl⟩)
        go_ret
        exact ⟨by first | rfl | (rw [w3]; rfl) | (rw [w2]; rfl) | (simp [w1, w2, w3]), rfl⟩
      · have d3 : decide ((x : Int) ≤ 102) = false := decide_eq_false (by omega)
        have d4 : decide ((65 : Int) ≤ (x : Int)) = true := decide_eq_true (by omega)
        have d5 : decide ((x : Int) ≤ 70) = false := decide_eq_false (by omega)
        rw [if_neg (by omega), if_neg (by omega)] at hO
        subst hO
        go_enter Tryz.func48, Tryz.ntmps48
        go_wp2_with (go_at_call 94; refine (hI _).mono ?_; rintro e w2 ⟨rfl, rfl⟩)
        go_ret
        exact ⟨by first | rfl | simp, rfl⟩
    · have d2 : decide ((97 : Int) ≤ (x : Int)) = false := decide_eq_false (by omega)
      rw [if_neg (by omega)] at hO
      by_cases h4 : 65 ≤ x
      · have d4 : decide ((65 : Int) ≤ (x : Int)) = true := decide_eq_true (by omega)
        by_cases h5 : x ≤ 70
        · have d5 : decide ((x : Int) ≤ 70) = true := decide_eq_true (by omega)
          rw [if_pos ⟨h4, h5⟩] at hO
          have w1 : IntKind.u8.wrap ((x : Int) - 65) = (x : Int) - 65 := by rw [IntKind.wrap_u8]; omega
          have w2 : wrap64 ((x : Int) - 65 + 10) = V := by rw [hO, show (x : Int) - 65 + 10 = (x : Int) - 55 by omega]; exact IntWalk.wrap64_in _ (by omega)
          have w3 : (x : Int) - 65 + 10 = V := by omega
          clear hO
          go_enter Tryz.func48, Tryz.ntmps48
          go_wp2_with (go_at_call 94; refine (hI _).mono ?_; rintro e w2 ⟨rfl, rfl⟩)
          go_ret
          exact ⟨by first | rfl | (rw [w3]; rfl) | (rw [w2]; rfl) | (simp [w1, w2, w3]), rfl⟩
        · have d5 : decide ((x : Int) ≤ 70) = false := decide_eq_false (by omega)
          rw [if_neg (by omega)] at hO
          subst hO
          go_enter Tryz.func48, Tryz.ntmps48
          go_wp2_with (go_at_call 94; refine (hI _).mono ?_; rintro e w2 ⟨rfl, rfl⟩)
          go_ret
          exact ⟨by first | rfl | simp, rfl⟩
      · have d4 : decide ((65 : Int) ≤ (x : Int)) = false := decide_eq_false (by omega)
        rw [if_neg (by omega)] at hO
        subst hO
        go_enter Tryz.func48, Tryz.ntmps48
        go_wp2_with (go_at_call 94; refine (hI _).mono ?_; rintro e w2 ⟨rfl, rfl⟩)
        go_ret
        exact ⟨by first | rfl | simp, rfl⟩
end Go.Proofs.YtpdjpjkieafnbaaGreatDoor.Li
set_option linter.unusedVariables false
set_option linter.unusedSimpArgs false
namespace Go.Proofs.YtpdjpjkieafnbaaGreatDoor.Li
open Go.RowKit Go.Shelf
theorem isX_or (hx : Bool) (c : UInt8) : isX hx c = (isD c || (hx && decide (0 ≤ dgO c.toNat))) := by
  cases hx
  · rw [isX_dec, Bool.false_and, Bool.or_false]
  · unfold isX
    rw [Bool.true_or, Bool.and_true, Bool.true_and]
    by_cases h : isD c = true
    · have h2 := h
      unfold isD at h2
      have h3 := of_decide_eq_true h2
      rw [h, Bool.true_or]
      apply decide_eq_true
      unfold dgO
      rw [if_pos h3]
      omega
    · rw [show isD c = false by simpa using h, Bool.false_or]
theorem tw_drop (p : UInt8 → Bool) (s : List UInt8) (k j : Nat) (hk : k + j ≤ s.length) (h : ∀ i, i < j → p (s.getD (k + i) 0) = true) (hn : ¬ (k + j < s.length ∧ p (s.getD (k + j) 0) = true)) : ((s.drop k).takeWhile p).length = j := by
  have e : ∀ i, (s.drop k).getD i 0 = s.getD (k + i) 0 := fun i => by simp [List.getD, List.getElem?_drop]
  refine tw_len p (s.drop k) j (by rw [List.length_drop]; omega) (fun i hi => by rw [e]; exact h i hi) ?_
  rw [e, List.length_drop]
  by_cases q : k + j < s.length
  · right
    have : ¬ p (s.getD (k + j) 0) = true := fun r => hn ⟨q, r⟩
    simpa using this
  · left; omega
set_option maxRecDepth 100000 in
set_option maxHeartbeats 2000000 in
/-- The reference's run: digits, decimal or hexadecimal. -/
theorem urun_any (hx : Bool) (s : List UInt8) (k : Nat) (w : World) (hs : s.length ≤ 4096) (hk : k ≤ s.length) (k' : Nat) (hk' : k + ((s.drop k).takeWhile (isX hx)).length = k') (ok : Bool) (hok : decide (k < k') = ok) :
    Calls Tryz.prog 92 #[.string ⟨s.toArray⟩, .int .i64 (k : Int), .bool hx] w fun e w' => e = .returned (.tuple #[.int .i64 (k' : Int), .bool ok]) ∧ w = w' := by
  have s1 : (ByteArray.mk s.toArray).size = s.length := sz_mk s
  obtain ⟨L, hL⟩ : ∃ L, s.length = L := ⟨_, rfl⟩
  rw [hL] at s1 hs hk
  have HL : Hid (s.length = L) := hL
  have HK : Hid (k + ((s.drop k).takeWhile (isX hx)).length = k') := hk'
  have HO : Hid (decide (k < k') = ok) := hok
  clear hL hk' hok
  go_enter Tryz.func92, Tryz.ntmps92
  go_wp2_with fail
  go_loopg [1] (L) (fun g v5 wx => ∃ m j : Nat, m + g = L + k ∧ m = k + j ∧ m ≤ L ∧ v5 = .int .i64 (m : Int) ∧ (∀ i, i < j → isX hx (s.getD (k + i) 0) = true) ∧ wx = w)
  case atStart => exact ⟨k, 0, by omega, by omega, by omega, rfl, fun i hi => by omega, rfl⟩
  case round =>
    obtain ⟨m, j, hmg, hmj, hmL, rfl, hdd, rfl⟩ := hrel
    have HD : Hid (∀ i, i < j → isX hx (s.getD (k + i) 0) = true) := hdd
    have HMJ : Hid (m = k + j) := hmj
    clear hdd hmj
    have fin : ¬ (m < s.length ∧ isX hx (s.getD m 0) = true) → m = k' ∧ decide ((k : Int) < (m : Int)) = ok := by
      intro hn
      have h1 := HMJ.out
      have h2 := HL.out
      rw [h1] at hn
      have h3 := tw_drop (isX hx) s k j (by omega) HD.out hn
      have h4 := HK.out
      have h5 := HO.out
      have h6 : m = k' := by omega
      refine ⟨h6, ?_⟩
      rw [← h5, ← h6]
      congr 1
      apply propext
      omega
    by_cases hml : m < L
    · have hml2 : m < s.length := by have := HL.out; omega
      have hix := fun wx => run_ix s m hml2 wx
      obtain ⟨c, hc⟩ : ∃ c, s.getD m 0 = c := ⟨_, rfl⟩
      rw [hc] at hix fin
      have hI := fun wx => qisDigit_any c wx
      have hJ := fun wx => hexv_any c wx
      have hX := isX_or hx c
      have hmI : (m : Int) < (L : Int) := by omega
      obtain ⟨B, hB⟩ : ∃ B, decide (0 ≤ dgO c.toNat) = B := ⟨_, rfl⟩
      rw [hB] at hX
      have HD2 : isX hx c = true → Hid (∀ i, i < j + 1 → isX hx (s.getD (k + i) 0) = true) := by
        intro q i hi
        by_cases e : i = j
        · rw [e, ← HMJ.out, hc]; exact q
        · exact HD.out i (by omega)
      generalize isX hx c = X at hX HD2 fin
      generalize isD c = D at *
      generalize dgO c.toNat = V at *
      have fin' : X = false → Hid (m = k') ∧ decide ((k : Int) < (m : Int)) = ok := fun q => fin (fun r => by rw [q] at r; exact Bool.false_ne_true r.2)
      clear fin hc hml2
      cases D
      · cases hx
        · have hX2 : X = false := by rw [hX]; rfl
          obtain ⟨e1, e3⟩ := fin' hX2
          clear HD2 fin' hX
          go_wp2_with (go_at_call 94; refine (hI _).mono ?_; rintro e w2 ⟨rfl, rfl⟩)
          all_goals (go_ret2; exact ⟨by rw [← e1.out, ← e3]; first | rfl | simp, rfl⟩)
        · cases B
          · have hX2 : X = false := by rw [hX]; rfl
            obtain ⟨e1, e3⟩ := fin' hX2
            clear HD2 fin' hX
            go_wp2_with (first | (go_at_call 94; refine (hI _).mono ?_; rintro e w2 ⟨rfl, rfl⟩) | (go_at_call 48; refine (hJ _).mono ?_; rintro e w3 ⟨rfl, rfl⟩))
            all_goals (go_ret2; exact ⟨by rw [← e1.out, ← e3]; first | rfl | simp, rfl⟩)
          · have hX2 : X = true := by rw [hX]; rfl
            have H2 := HD2 hX2
            clear HD2 fin' hX
            go_wp2_with (first | (go_at_call 94; refine (hI _).mono ?_; rintro e w2 ⟨rfl, rfl⟩) | (go_at_call 48; refine (hJ _).mono ?_; rintro e w3 ⟨rfl, rfl⟩))
            go_roundg (gk - 1)
            case measure => omega
            case rel => exact ⟨m + 1, j + 1, by omega, by have := HMJ.out; omega, by omega, by simp, H2.out, rfl⟩
      · have hX2 : X = true := by rw [hX]; rfl
        have H2 := HD2 hX2
        clear HD2 fin' hX
        go_wp2_with (go_at_call 94; refine (hI _).mono ?_; rintro e w2 ⟨rfl, rfl⟩)
        go_roundg (gk - 1)
        case measure => omega
        case rel => exact ⟨m + 1, j + 1, by omega, by have := HMJ.out; omega, by omega, by simp, H2.out, rfl⟩
    · obtain rfl : m = L := by omega
      obtain ⟨e1, e3⟩ := fin (by rintro ⟨a, -⟩; have := HL.out; omega)
      replace e1 : Hid _ := e1
      clear fin
      go_wp2_with fail
      all_goals (go_ret2; exact ⟨by rw [← e1.out, ← e3]; first | rfl | simp, rfl⟩)
end Go.Proofs.YtpdjpjkieafnbaaGreatDoor.Li
set_option linter.unusedVariables false
set_option linter.unusedSimpArgs false
namespace Go.Proofs.YtpdjpjkieafnbaaGreatDoor.Li
open Go.RowKit Go.Shelf
/-- How many bytes of t stand in s from a place on. -/
def wrd (s : List UInt8) (k : Nat) : List UInt8 → Nat
  | [] => 0
  | b :: t => if k < s.length ∧ s.getD k 0 = b then wrd s (k + 1) t + 1 else 0
theorem wrd_at (s : List UInt8) : ∀ (t : List UInt8) (k j : Nat), j ≤ t.length → (∀ i, i < j → k + i < s.length ∧ s.getD (k + i) 0 = t.getD i 0) → ¬ (j < t.length ∧ k + j < s.length ∧ s.getD (k + j) 0 = t.getD j 0) → wrd s k t = j
  | [], k, j, h, _, _ => by simp at h; simp [wrd, h]
  | b :: t, k, 0, _, _, hn => by
    unfold wrd
    rw [if_neg]
    intro q
    exact hn ⟨by simp, by simpa using q.1, by simpa using q.2⟩
  | b :: t, k, j + 1, h, hd, hn => by
    have h0 := hd 0 (by omega)
    unfold wrd
    rw [if_pos ⟨by simpa using h0.1, by simpa using h0.2⟩]
    congr 1
    refine wrd_at s t (k + 1) j (by simpa using h) (fun i hi => ?_) (fun q => hn ?_)
    · have := hd (i + 1) (by omega)
      rw [show k + (i + 1) = k + 1 + i by omega] at this
      simpa using this
    · rw [show k + (j + 1) = k + 1 + j by omega]
      simpa using q
set_option maxRecDepth 100000 in
set_option maxHeartbeats 2000000 in
/-- The reference's word. -/
theorem word_any (s t : List UInt8) (k : Nat) (w : World) (hs : s.length ≤ 4096) (ht : t.length ≤ 4096) (hk : k ≤ s.length) :
    Calls Tryz.prog 91 #[.string ⟨s.toArray⟩, .int .i64 (k : Int), .string ⟨t.toArray⟩] w fun e w' => e = .returned (.int .i64 (wrd s k t : Nat)) ∧ Keep w w' := by
  have s1 : (ByteArray.mk s.toArray).size = s.length := sz_mk s
  have s2 : (ByteArray.mk t.toArray).size = t.length := sz_mk t
  obtain ⟨L, hL⟩ : ∃ L, s.length = L := ⟨_, rfl⟩
  obtain ⟨T, hT⟩ : ∃ T, t.length = T := ⟨_, rfl⟩
  rw [hL] at s1 hs hk
  rw [hT] at s2 ht
  have HL : Hid (s.length = L) := hL
  have HT : Hid (t.length = T) := hT
  clear hL hT
  go_enter Tryz.func91, Tryz.ntmps91
  go_wp2_with fail
  go_loopg [7] (T) (fun g v5 wx => ∃ j : Nat, j + g = T ∧ v5 = .int .i64 (j : Int) ∧ (∀ i, i < j → k + i < s.length ∧ s.getD (k + i) 0 = t.getD i 0) ∧ Keep w wx)
  case atStart => exact ⟨0, by omega, rfl, fun i hi => by omega, Keep.refl _⟩
  case round =>
    obtain ⟨j, hjg, rfl, hdd, kr⟩ := hrel
    have fin : ¬ (j < T ∧ k + j < L ∧ s.getD (k + j) 0 = t.getD j 0) → Hid (wrd s k t = j) := by
      intro hn
      exact wrd_at s t k j (by have := HT.out; omega) hdd (by rw [HT.out, HL.out]; exact hn)
    have HD : Hid (∀ i, i < j → k + i < s.length ∧ s.getD (k + i) 0 = t.getD i 0) := hdd
    clear hdd
    by_cases h1 : j < T
    · have d1 : decide ((j : Int) < (T : Int)) = true := decide_eq_true (by omega)
      by_cases h2 : k + j < L
      · have d2 : decide ((k : Int) + (j : Int) < (L : Int)) = true := decide_eq_true (by omega)
        have hix1 := fun wx => run_ix s (k + j) (by have := HL.out; omega) wx
        have hix2 := fun wx => run_ix t j (by have := HT.out; omega) wx
        rw [show ((k + j : Nat) : Int) = (k : Int) + (j : Int) by omega] at hix1
        obtain ⟨c, hc⟩ : ∃ c, s.getD (k + j) 0 = c := ⟨_, rfl⟩
        obtain ⟨d, hd⟩ : ∃ d, t.getD j 0 = d := ⟨_, rfl⟩
        rw [hc, hd] at fin
        rw [hc] at hix1
        rw [hd] at hix2
        by_cases h3 : c = d
        · have H2 : Hid (∀ i, i < j + 1 → k + i < s.length ∧ s.getD (k + i) 0 = t.getD i 0) := by
            intro i hi
            by_cases e : i = j
            · rw [e, hc, hd]; exact ⟨by have := HL.out; omega, h3⟩
            · exact HD.out i (by omega)
          clear fin hc hd
          subst h3
          have b1 : ((c.toNat : Int) == (c.toNat : Int)) = true := by simp
          go_wp2_with fail
          go_quiet (fail)
          go_wp2_with fail
          go_roundg (gk - 1)
          case measure => omega
          case rel => exact ⟨j + 1, by omega, by simp, H2.out, by first | exact kr | exact kr.drewN _ | exact kr.drew⟩
        · have e1 := fin (fun q => h3 q.2.2)
          have b1 : ((c.toNat : Int) == (d.toNat : Int)) = false := by
            rw [beq_eq_false_iff_ne]
            intro q
            exact h3 (UInt8.toNat_inj.1 (by omega))
          clear fin hc hd h3
          go_wp2_with fail
          go_quiet (fail)
          go_wp2_with fail
          go_ret
          exact ⟨by rw [e1.out]; first | rfl | simp, by first | exact kr | exact kr.drewN _ | exact kr.drew⟩
      · have d2 : decide ((k : Int) + (j : Int) < (L : Int)) = false := decide_eq_false (by omega)
        have e1 := fin (fun q => h2 q.2.1)
        clear fin
        go_wp2_with fail
        go_quiet (fail)
        go_wp2_with fail
        go_ret
        exact ⟨by rw [e1.out]; first | rfl | simp, by first | exact kr | exact kr.drewN _ | exact kr.drew⟩
    · have d1 : decide ((j : Int) < (T : Int)) = false := decide_eq_false (by omega)
      have e1 := fin (fun q => h1 q.1)
      clear fin
      go_wp2_with fail
      go_quiet (fail)
      go_wp2_with fail
      go_ret
      exact ⟨by rw [e1.out]; first | rfl | simp, by first | exact kr | exact kr.drewN _ | exact kr.drew⟩
end Go.Proofs.YtpdjpjkieafnbaaGreatDoor.Li
