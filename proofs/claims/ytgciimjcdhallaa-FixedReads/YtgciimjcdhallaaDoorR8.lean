import Derived.Test.YtgciimjcdhallaaDoorR7
set_option linter.unusedVariables false
set_option linter.unusedSimpArgs false
namespace Go.Proofs.YtgciimjcdhallaaDoor
open Go.RowKit Go.Shelf
/-- How the reference goes through a power's text. -/
def pwF (l : List UInt8) : Nat := l.foldl (fun n b => if isD b = true ∧ n < 100000 then 10 * n + dv b else n) 0
theorem pwF_step (l : List UInt8) (i : Nat) (h : i < l.length) : pwF (l.take (i + 1)) = if isD (l.getD i 0) = true ∧ pwF (l.take i) < 100000 then 10 * pwF (l.take i) + dv (l.getD i 0) else pwF (l.take i) := by
  have e : l.take (i + 1) = l.take i ++ [l.getD i 0] := by
    rw [List.take_add_one]; simp [List.getD, List.getElem?_eq_getElem h]
  rw [e]
  unfold pwF
  rw [List.foldl_append]
  rfl
theorem pwF_le (l : List UInt8) : ∀ n, n ≤ 1000000 → l.foldl (fun n b => if isD b = true ∧ n < 100000 then 10 * n + dv b else n) n ≤ 1000000 := by
  induction l with
  | nil => intro n h; exact h
  | cons b l ih =>
    intro n h
    rw [List.foldl_cons]
    apply ih
    by_cases q : isD b = true ∧ n < 100000
    · rw [if_pos q]
      have := dv_lt q.1
      omega
    · rw [if_neg q]
      exact h
theorem fold_far (l : List UInt8) (n : Nat) (h : 100000 ≤ n) : l.foldl (fun n b => if isD b = true ∧ n < 100000 then 10 * n + dv b else n) n = n := by
  induction l with
  | nil => rfl
  | cons b l ih => rw [List.foldl_cons, if_neg (by omega)]; exact ih
theorem fold_cap (l : List UInt8) (hd : allD l) : ∀ n, min (l.foldl (fun n b => if isD b = true ∧ n < 100000 then 10 * n + dv b else n) n) 100000 = min (l.foldl (fun n b => 10 * n + dv b) n) 100000 := by
  induction l with
  | nil => intro n; rfl
  | cons b l ih =>
    intro n
    rw [List.foldl_cons, List.foldl_cons]
    have hb := hd b List.mem_cons_self
    have hl : allD l := fun x hx => hd x (List.mem_cons_of_mem _ hx)
    by_cases q : n < 100000
    · rw [if_pos ⟨hb, q⟩]
      exact ih hl _
    · rw [if_neg (by omega), fold_far l n (by omega), fold_nat]
      have h1 : 1 ≤ 10 ^ l.length := Nat.pow_pos (by omega)
      have h2 : (10 * n + dv b) * 1 ≤ (10 * n + dv b) * 10 ^ l.length := Nat.mul_le_mul_left _ h1
      omega
theorem pwF_digits {l : List UInt8} (hd : allD l) : min (pwF l) 100000 = min (nat l) 100000 := fold_cap l hd 0
theorem pwF_sign {c : UInt8} {l : List UInt8} (hc : isD c = false) : pwF (c :: l) = pwF l := by
  unfold pwF
  rw [List.foldl_cons, if_neg (by rw [hc]; simp)]
set_option maxRecDepth 100000 in
set_option maxHeartbeats 2000000 in
theorem rpower_any (l : List UInt8) (w : World) (hl : l.length ≤ 4096) (ng : Bool) (hng : tk l [45] 0 = ng) (N : Nat) (hN : min (pwF l) 100000 = N) :
    Calls Tryd.prog 32 #[.string ⟨l.toArray⟩, .int .i64 100000] w fun e w' => e = .returned (.int .i64 (if ng then -(N : Int) else (N : Int))) ∧ w = w' := by
  have s1 : (ByteArray.mk l.toArray).size = l.length := sz_mk l
  obtain ⟨L, hL⟩ : ∃ L, l.length = L := ⟨_, rfl⟩
  rw [hL] at s1 hl
  have HL : Hid (l.length = L) := hL
  have HN : Hid (min (pwF l) 100000 = N) := hN
  by_cases h0 : 0 < L
  · have hix0 : ∀ wx, (Instr.index 9 (.string ⟨l.toArray⟩) (.int .i64 0)).run Tryd.prog wx = .ok (.int .u8 ((l.getD 0 0).toNat : Nat)) wx := fun wx => run_ix l 0 (by omega) wx
    obtain ⟨c0, hc0⟩ : ∃ c0, (l.getD 0 0).toNat = c0 := ⟨_, rfl⟩
    rw [hc0] at hix0
    have hcI : ((c0 : Int) == 45) = ng := by
      rw [← hng]
      unfold tk
      by_cases q : l.getD 0 0 = 45
      · rw [q] at hc0 ⊢
        have : c0 = 45 := by rw [← hc0]; rfl
        subst this
        simp [hL, h0]
      · have q2 : c0 ≠ 45 := fun e => q (UInt8.toNat_inj.1 (by rw [hc0, e]; rfl))
        have a2 : ((c0 : Int) == 45) = false := by
          have : ¬ (c0 : Int) = 45 := by omega
          simpa using this
        rw [a2]
        symm
        apply decide_eq_false
        rintro ⟨-, a⟩
        exact q (by simpa using a)
    have hL2 : (0 : Int) < (L : Int) := by omega
    clear hng hN hL hc0
    cases ng
    · go_enter Tryd.func32, Tryd.ntmps32
      go_wp2_with fail
      go_loopg [6, 7] (L) (fun g v6 v7 wx => ∃ i n : Nat, i + g = L ∧ n = pwF (l.take i) ∧ n ≤ 1000000 ∧ v6 = .int .i64 (n : Int) ∧ v7 = .int .i64 (i : Int) ∧ wx = w)
      case atStart => exact ⟨0, 0, by omega, rfl, by omega, rfl, rfl, rfl⟩
      case round =>
        obtain ⟨i, n, hig, hn, hle, rfl, rfl, rfl⟩ := hrel
        replace hn : Hid _ := hn
        by_cases hil : i < L
        · have hil2 : i < l.length := by have := HL.out; omega
          have hix := fun wx => run_ix l i hil2 wx
          have hst := pwF_step l i hil2
          rw [← hn.out] at hst
          have hle2 : pwF (l.take (i + 1)) ≤ 1000000 := pwF_le _ 0 (by omega)
          obtain ⟨c, hc⟩ : ∃ c, l.getD i 0 = c := ⟨_, rfl⟩
          rw [hc] at hix hst
          have hI := fun wx => qisDigit_any c wx
          have hile : (i : Int) < (L : Int) := by omega
          by_cases hd : isD c = true
          · rw [hd] at hI
            by_cases hn5 : n < 100000
            · rw [if_pos ⟨hd, hn5⟩] at hst
              have hn5I : (n : Int) < 100000 := by omega
              have hdb := hd
              unfold isD at hdb
              obtain ⟨hb1, hb2⟩ := of_decide_eq_true hdb
              unfold dv at hst
              obtain ⟨x, hx⟩ : ∃ x, c.toNat = x := ⟨_, rfl⟩
              rw [hx] at hix hI hst hb1 hb2
              have w1 : IntKind.u8.wrap ((x : Int) - 48) = ((x - 48 : Nat) : Int) := by
                rw [show (x : Int) - 48 = ((x - 48 : Nat) : Int) by omega]
                obtain ⟨z, hz⟩ : ∃ z, x - 48 = z := ⟨_, rfl⟩
                have : z ≤ 9 := by omega
                rw [hz]
                obtain rfl | rfl | rfl | rfl | rfl | rfl | rfl | rfl | rfl | rfl : z = 0 ∨ z = 1 ∨ z = 2 ∨ z = 3 ∨ z = 4 ∨ z = 5 ∨ z = 6 ∨ z = 7 ∨ z = 8 ∨ z = 9 := by omega
                all_goals rfl
              obtain ⟨y, hy⟩ : ∃ y, x - 48 = y := ⟨_, rfl⟩
              rw [hy] at w1 hst
              have hy9 : y ≤ 9 := by omega
              rw [hst] at hle2
              replace hst : Hid _ := hst
              clear hx hy hc hd hdb hil2
              go_wp2_with (go_at_call 47; refine (hI _).mono ?_; rintro e w2 ⟨rfl, rfl⟩)
              go_roundg (gk - 1)
              case measure => omega
              case rel => exact ⟨i + 1, 10 * n + y, by omega, hst.out.symm, by omega, by simp, by simp, rfl⟩
            · rw [if_neg (fun q => hn5 q.2)] at hst
              have hn5I : decide ((n : Int) < 100000) = false := decide_eq_false (by omega)
              replace hst : Hid _ := hst
              replace hle : Hid _ := hle
              clear hc hd hil2 hle2 hn5
              go_wp2_with (go_at_call 47; refine (hI _).mono ?_; rintro e w2 ⟨rfl, rfl⟩)
              go_roundg (gk - 1)
              case measure => omega
              case rel => exact ⟨i + 1, n, by omega, hst.out.symm, hle.out, by simp, by simp, rfl⟩
          · have hd2 : isD c = false := by simpa using hd
            rw [if_neg (fun q => hd q.1)] at hst
            rw [hd2] at hI
            replace hst : Hid _ := hst
            clear hc hd hd2 hil2 hle2
            go_wp2_with (go_at_call 47; refine (hI _).mono ?_; rintro e w2 ⟨rfl, rfl⟩)
            go_roundg (gk - 1)
            case measure => omega
            case rel => exact ⟨i + 1, n, by omega, hst.out.symm, hle, by simp, by simp, rfl⟩
        · obtain rfl : i = L := by omega
          have hile : ¬ (i : Int) < (i : Int) := by omega
          have hn2 : n = pwF l := by rw [hn.out, ← HL.out, List.take_length]
          have hN2 := HN.out
          rw [← hn2] at hN2
          by_cases hb : (100000 : Int) < (n : Int)
          · have hN3 : N = 100000 := by omega
            replace hN3 : Hid _ := hN3
            clear hN2 hn2
            go_wp2_with fail
            go_ret
            exact ⟨by rw [hN3.out]; rfl, rfl⟩
          · have hN3 : N = n := by omega
            replace hN3 : Hid _ := hN3
            clear hN2 hn2
            go_wp2_with fail
            go_ret
            exact ⟨by rw [hN3.out]; rfl, rfl⟩
    · go_enter Tryd.func32, Tryd.ntmps32
      go_wp2_with fail
      go_loopg [6, 7] (L) (fun g v6 v7 wx => ∃ i n : Nat, i + g = L ∧ n = pwF (l.take i) ∧ n ≤ 1000000 ∧ v6 = .int .i64 (n : Int) ∧ v7 = .int .i64 (i : Int) ∧ wx = w)
      case atStart => exact ⟨0, 0, by omega, rfl, by omega, rfl, rfl, rfl⟩
      case round =>
        obtain ⟨i, n, hig, hn, hle, rfl, rfl, rfl⟩ := hrel
        replace hn : Hid _ := hn
        by_cases hil : i < L
        · have hil2 : i < l.length := by have := HL.out; omega
          have hix := fun wx => run_ix l i hil2 wx
          have hst := pwF_step l i hil2
          rw [← hn.out] at hst
          have hle2 : pwF (l.take (i + 1)) ≤ 1000000 := pwF_le _ 0 (by omega)
          obtain ⟨c, hc⟩ : ∃ c, l.getD i 0 = c := ⟨_, rfl⟩
          rw [hc] at hix hst
          have hI := fun wx => qisDigit_any c wx
          have hile : (i : Int) < (L : Int) := by omega
          by_cases hd : isD c = true
          · rw [hd] at hI
            by_cases hn5 : n < 100000
            · rw [if_pos ⟨hd, hn5⟩] at hst
              have hn5I : (n : Int) < 100000 := by omega
              have hdb := hd
              unfold isD at hdb
              obtain ⟨hb1, hb2⟩ := of_decide_eq_true hdb
              unfold dv at hst
              obtain ⟨x, hx⟩ : ∃ x, c.toNat = x := ⟨_, rfl⟩
              rw [hx] at hix hI hst hb1 hb2
              have w1 : IntKind.u8.wrap ((x : Int) - 48) = ((x - 48 : Nat) : Int) := by
                rw [show (x : Int) - 48 = ((x - 48 : Nat) : Int) by omega]
                obtain ⟨z, hz⟩ : ∃ z, x - 48 = z := ⟨_, rfl⟩
                have : z ≤ 9 := by omega
                rw [hz]
                obtain rfl | rfl | rfl | rfl | rfl | rfl | rfl | rfl | rfl | rfl : z = 0 ∨ z = 1 ∨ z = 2 ∨ z = 3 ∨ z = 4 ∨ z = 5 ∨ z = 6 ∨ z = 7 ∨ z = 8 ∨ z = 9 := by omega
                all_goals rfl
              obtain ⟨y, hy⟩ : ∃ y, x - 48 = y := ⟨_, rfl⟩
              rw [hy] at w1 hst
              have hy9 : y ≤ 9 := by omega
              rw [hst] at hle2
              replace hst : Hid _ := hst
              clear hx hy hc hd hdb hil2
              go_wp2_with (go_at_call 47; refine (hI _).mono ?_; rintro e w2 ⟨rfl, rfl⟩)
              go_roundg (gk - 1)
              case measure => omega
              case rel => exact ⟨i + 1, 10 * n + y, by omega, hst.out.symm, by omega, by simp, by simp, rfl⟩
            · rw [if_neg (fun q => hn5 q.2)] at hst
              have hn5I : decide ((n : Int) < 100000) = false := decide_eq_false (by omega)
              replace hst : Hid _ := hst
              replace hle : Hid _ := hle
              clear hc hd hil2 hle2 hn5
              go_wp2_with (go_at_call 47; refine (hI _).mono ?_; rintro e w2 ⟨rfl, rfl⟩)
              go_roundg (gk - 1)
              case measure => omega
              case rel => exact ⟨i + 1, n, by omega, hst.out.symm, hle.out, by simp, by simp, rfl⟩
          · have hd2 : isD c = false := by simpa using hd
            rw [if_neg (fun q => hd q.1)] at hst
            rw [hd2] at hI
            replace hst : Hid _ := hst
            clear hc hd hd2 hil2 hle2
            go_wp2_with (go_at_call 47; refine (hI _).mono ?_; rintro e w2 ⟨rfl, rfl⟩)
            go_roundg (gk - 1)
            case measure => omega
            case rel => exact ⟨i + 1, n, by omega, hst.out.symm, hle, by simp, by simp, rfl⟩
        · obtain rfl : i = L := by omega
          have hile : ¬ (i : Int) < (i : Int) := by omega
          have hn2 : n = pwF l := by rw [hn.out, ← HL.out, List.take_length]
          have hN2 := HN.out
          rw [← hn2] at hN2
          by_cases hb : (100000 : Int) < (n : Int)
          · have hN3 : N = 100000 := by omega
            replace hN3 : Hid _ := hN3
            clear hN2 hn2
            go_wp2_with fail
            go_ret
            exact ⟨by rw [hN3.out]; rfl, rfl⟩
          · have hN3 : N = n := by omega
            replace hN3 : Hid _ := hN3
            clear hN2 hn2
            go_wp2_with fail
            go_ret
            exact ⟨by rw [hN3.out]; rfl, rfl⟩
  · obtain rfl : L = 0 := by omega
    have hng0 : ng = false := by
      rw [← hng]
      unfold tk
      apply decide_eq_false
      rintro ⟨a, -⟩
      omega
    subst hng0
    have hl0 : l = [] := List.length_eq_zero_iff.1 hL
    have hN0 : Hid (N = 0) := by rw [← hN, hl0]; rfl
    clear hng hN hL
    go_enter Tryd.func32, Tryd.ntmps32
    go_wp2_with fail
    go_loopg [6, 7] (0) (fun g v6 v7 wx => v6 = .int .i64 0 ∧ v7 = .int .i64 0 ∧ wx = w)
    case atStart => exact ⟨rfl, rfl, rfl⟩
    case round =>
      obtain ⟨rfl, rfl, rfl⟩ := hrel
      go_wp2_with fail
      go_ret
      exact ⟨by rw [hN0.out]; rfl, rfl⟩
set_option maxRecDepth 100000 in
theorem rPower_any (l : List UInt8) (w : World) (hl : l.length ≤ 4096) (ng : Bool) (hng : tk l [45] 0 = ng) (N : Nat) (hN : min (pwF l) 100000 = N) :
    Calls Tryd.prog 17 #[.string ⟨l.toArray⟩] w fun e w' => e = .returned (.int .i64 (if ng then -(N : Int) else (N : Int))) ∧ w = w' := by
  have h := fun wx => rpower_any l wx hl ng hng N hN
  generalize (if ng then -(N : Int) else (N : Int)) = R at h ⊢
  clear hng hN hl
  go_enter Tryd.func17, Tryd.ntmps17
  go_wp2_with (go_at_call 32; refine (h _).mono ?_; rintro e w2 ⟨rfl, rfl⟩)
  go_ret
  exact ⟨rfl, rfl⟩
end Go.Proofs.YtgciimjcdhallaaDoor
