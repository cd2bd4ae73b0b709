import Derived.Test.YtbjidpooociamaaDoorE6
set_option linter.unusedVariables false
set_option linter.unusedSimpArgs false
namespace Go.Proofs.YtbjidpooociamaaDoor
open Go.RowKit Lb
theorem lenB_max {l : List Nat} (hm : Lim l) : lenB l ≤ 32 * l.length := by
  unfold lenB
  have h1 := nl_le l
  by_cases h : nl l = 0
  · rw [if_pos h]; omega
  · rw [if_neg h]
    have h2 := bitLen_le (l.getD (nl l - 1) 0) (Lim_getD hm _)
    omega
theorem pow_room (l : List Nat) (hm : Lim l) (n K : Nat) (hK : 65536 < 32 * K) (h : lenB l * n ≤ 65536) (j : Nat) (hj : j ≤ n) : val l ^ j < 4294967296 ^ K := by
  have h1 := val_lt_len l hm
  have h2 : val l ^ j ≤ (2 ^ lenB l) ^ j := Nat.pow_le_pow_left (by omega) j
  have h3 : lenB l * j ≤ lenB l * n := Nat.mul_le_mul_left _ hj
  rw [← Nat.pow_mul] at h2
  refine Nat.lt_of_le_of_lt h2 ?_
  rw [show (4294967296 : Nat) = 2 ^ 32 from rfl, ← Nat.pow_mul]
  exact Nat.pow_lt_pow_right (by omega) (by omega)
/-- What is told besides a power: 2 past the range, 3 where it has too many bits. -/
def powE (la : List Nat) (n : Int) : Int := if n < 0 ∨ 65536 < n then 2 else if 65536 < (lenB la : Int) * n then 3 else 0
def powV (la : List Nat) (n : Int) : Nat := if n < 0 ∨ 65536 < n then 0 else if 65536 < (lenB la : Int) * n then 0 else val la ^ n.toNat
/-- A natural and an error's number: what Pow, Up and Down return. -/
def Two (w w' : World) (e : Ending) (V : Nat) (E : Int) : Prop := ∃ a c l, e = .returned (.tuple #[.slice a l.length c, .int .i64 E]) ∧ l.length ≤ c ∧ Rd w' a l ∧ Lim l ∧ Nrm l ∧ val l = V ∧ Keep w w'
theorem Two.nought {w w' : World} {E : Int} (k : Keep w w') : Two w w' (.returned (.tuple #[.slice none 0 0, .int .i64 E])) 0 E :=
  ⟨none, 0, [], rfl, by simp, Rd.nil _ _, by intro x hx; simp at hx, by simp [Nrm], rfl, k⟩
theorem many_iff (L n : Nat) (hn : 0 < n) : 65536 / n < L ↔ 65536 < L * n := Nat.div_lt_iff_lt_mul hn
set_option maxRecDepth 100000 in
set_option maxHeartbeats 800000 in
theorem Pow_any (a : Option Addr) (ca : Nat) (n : Int) (la : List Nat) (w : World) (hca : la.length ≤ ca) (hla : la.length ≤ 1048576) (hra : Rd w a la) (hma : Lim la) :
    Calls Tryd.prog 41 #[.slice a la.length ca, .int .i64 n] w fun e w' => Two w w' e (powV la n) (powE la n) := by
  by_cases hout : n < 0 ∨ 65536 < n
  · have e1 : powE la n = 2 := by unfold powE; rw [if_pos hout]
    have e2 : powV la n = 0 := by unfold powV; rw [if_pos hout]
    rw [e1, e2]
    clear e1 e2
    rcases hout with h | h
    all_goals
      go_enter Tryd.func41, Tryd.ntmps41
      go_wp2
      go_ret2
      exact Two.nought (Keep.refl _)
  · obtain ⟨m, rfl⟩ : ∃ m : Nat, n = (m : Int) := ⟨n.toNat, by omega⟩
    have hm : m ≤ 65536 := by omega
    have hni : ¬ (m : Int) < 0 := by omega
    have hni2 : ¬ (65536 : Int) < (m : Int) := by omega
    have hLen := fun wx (hk : Keep w wx) => Len_any a ca la wx hca (by omega) (hra.keep hk) hma
    have hLb := lenB_max hma
    have h1 := nl_le la
    have e1 : (la.take (nl la)).length = nl la := by simp; omega
    have t1 := fun wx (hk : Keep w wx) => trim_any a ca la wx hca (by omega) (hra.keep hk)
    by_cases hmany : 65536 < lenB la * m
    · have hmi : 65536 < (lenB la : Int) * (m : Int) := by rw [← Int.natCast_mul]; omega
      have e1 : powE la m = 3 := by unfold powE; rw [if_neg hout, if_pos hmi]
      have e2 : powV la m = 0 := by unfold powV; rw [if_neg hout, if_pos hmi]
      rw [e1, e2]
      clear e1 e2 hmi
      have hm0 : 0 < m := by rcases Nat.eq_zero_or_pos m with h | h; · rw [h] at hmany; omega
                             · exact h
      have hq := (many_iff (lenB la) m hm0).2 hmany
      have hqi : (65536 : Int) / (m : Int) = ((65536 / m : Nat) : Int) := by simp
      generalize 65536 / m = q at *
      generalize lenB la = Lb at *
      clear hmany
      go_enter Tryd.func41, Tryd.ntmps41
      go_wp2_with fail
      go_quiet ((go_at_call 23; exact Calls.quiet_of (hLen _ ((Keep.refl w).drewN _))))
      have hk1 : Keep w (w.drewN nq) := (Keep.refl w).drewN _
      generalize w.drewN nq = w1 at hk1 ⊢
      go_wp2_with fail
      go_ret2
      exact Two.nought hk1
    · have hmi : ¬ 65536 < (lenB la : Int) * (m : Int) := by rw [← Int.natCast_mul]; omega
      have e3 : powE la m = 0 := by unfold powE; rw [if_neg hout, if_neg hmi]
      have e2 : powV la m = val la ^ m := by unfold powV; rw [if_neg hout, if_neg hmi]; simp
      rw [e3, e2]
      clear e3 e2 hmi
      obtain ⟨K, hK, hK2⟩ : ∃ K, 65536 < 32 * K ∧ K ≤ 35184372088832 := ⟨2049, by omega, by omega⟩
      have hM := fun wx (hk : Keep w wx) => power_any a ca m K (la.take (nl la)) wx (by omega) (by omega) hm (by omega) (by rw [val_take_nl]; exact pow_room la hma m K hK (by omega)) ((hra.keep hk).take _) (Lim_take hma _)
      rw [e1, val_take_nl] at hM
      by_cases hm0 : 0 < m
      · have hq : lenB la ≤ 65536 / m := by have := many_iff (lenB la) m hm0; omega
        have hqi : (65536 : Int) / (m : Int) = ((65536 / m : Nat) : Int) := by simp
        generalize 65536 / m = q at *
        generalize lenB la = Lb at *
        clear hmany
        go_enter Tryd.func41, Tryd.ntmps41
        go_wp2_with fail
        go_quiet ((go_at_call 23; exact Calls.quiet_of (hLen _ ((Keep.refl w).drewN _))))
        have hk1 : Keep w (w.drewN nq) := (Keep.refl w).drewN _
        generalize w.drewN nq = w1 at hk1 ⊢
        go_wp2_with fail
        refine (t1 _ hk1).mono ?_
        rintro e w2 ⟨rfl, rfl⟩
        go_wp2_with fail
        refine (hM _ hk1).mono ?_
        rintro e w3 ⟨v3, rfl, n3, k3⟩
        obtain ⟨a3, c3, l3, rfl, hc3, r3, m3, p3, e3, -⟩ := n3.natR.shape
        go_wp2_with fail
        go_ret2
        exact ⟨_, _, _, rfl, hc3, r3, m3, p3, e3, hk1.trans k3⟩
      · have hm00 : m = 0 := by omega
        subst hm00
        go_enter Tryd.func41, Tryd.ntmps41
        go_wp2_with fail
        go_quiet (fail)
        have hk1 : Keep w (w.drewN nq) := (Keep.refl w).drewN _
        generalize w.drewN nq = w1 at hk1 ⊢
        go_wp2_with fail
        refine (t1 _ hk1).mono ?_
        rintro e w2 ⟨rfl, rfl⟩
        go_wp2_with fail
        refine (hM _ hk1).mono ?_
        rintro e w3 ⟨v3, rfl, n3, k3⟩
        obtain ⟨a3, c3, l3, rfl, hc3, r3, m3, p3, e3, -⟩ := n3.natR.shape
        go_wp2_with fail
        go_ret2
        exact ⟨_, _, _, rfl, hc3, r3, m3, p3, e3, hk1.trans k3⟩
end Go.Proofs.YtbjidpooociamaaDoor
