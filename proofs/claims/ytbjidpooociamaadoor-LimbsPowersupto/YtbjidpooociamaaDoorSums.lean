import Derived.Test.YtbjidpooociamaaDoorD7
import Derived.Test.YtbjidpooociamaaDoorC19
namespace Go.Proofs.YtbjidpooociamaaDoor
open Go.RowKit Lb
theorem sum_bound {la lb l : List Nat} (ha : Lim la) (hb : Lim lb) (e : val l = val la + val lb) : val l < 4294967296 ^ (la.length + lb.length + 1) := by
  have h1 := val_lt ha
  have h2 := val_lt hb
  have h3 : 4294967296 ^ la.length ≤ 4294967296 ^ (la.length + lb.length) := Nat.pow_le_pow_right (by omega) (by omega)
  have h4 : 4294967296 ^ lb.length ≤ 4294967296 ^ (la.length + lb.length) := Nat.pow_le_pow_right (by omega) (by omega)
  rw [e, Nat.pow_succ]
  omega
theorem mul_bound {la lb l : List Nat} (ha : Lim la) (hb : Lim lb) (e : val l = val la * val lb) : val l < 4294967296 ^ (la.length + lb.length) := by
  rw [e, Nat.pow_add]
  exact Nat.mul_lt_mul_of_lt_of_le (val_lt ha) (Nat.le_of_lt (val_lt hb)) (Nat.pos_of_ne_zero (by simp))
set_option maxRecDepth 100000 in
set_option maxHeartbeats 800000 in
theorem law_sums (a b : Option Addr) (ca cb : Nat) (la lb : List Nat) (w : World) (hca : la.length ≤ ca) (hcb : lb.length ≤ cb) (hs : la.length + lb.length ≤ 1048576) (hra : Rd w a la) (hrb : Rd w b lb) (hma : Lim la) (hmb : Lim lb) :
    Calls Tryd.prog 5 #[.slice a la.length ca, .slice b lb.length cb] w fun e w' => e = .returned (.bool true) ∧ Keep w w' := by
  have hrest : ∀ (w4 : World), Keep w w4 → Calls Tryd.prog 35 #[.slice a la.length ca, .slice b lb.length cb] w4 fun e w' => ∃ v, e = .returned v ∧ NatS w4.heap.size w' v (val la * val lb) ∧ Keep w4 w' :=
    fun w4 hk => Mul_any a b ca cb la lb w4 hca hcb (by omega) (by omega) (hra.keep hk) (hrb.keep hk) hma hmb
  by_cases hlt : val la < val lb
  · go_enter Tryd.func5, Tryd.ntmps5
    go_wp2_with fail
    refine (Sub_any a b ca cb la lb w hca hcb (by omega) (by omega) hra hrb hma hmb).mono ?_
    rintro e w1 ⟨hor, k1⟩
    have he : e = .returned (.tuple #[.slice none 0 0, .int .i64 12]) := by rcases hor with ⟨-, h⟩ | ⟨h, -⟩; exact h; omega
    subst he
    clear hor
    go_wp2_with fail
    refine (rSub_any a b ca cb la lb w1 hca hcb (by omega) (by omega) (hra.keep k1) (hrb.keep k1) hma hmb).mono ?_
    rintro e w2 ⟨hor, k2⟩
    have he : e = .returned (.tuple #[.slice none 0 0, .int .i64 12]) := by rcases hor with ⟨-, h⟩ | ⟨h, -⟩; exact h; omega
    subst he
    clear hor
    have k02 := k1.trans k2
    go_wp2_with fail
    refine (lives_any w2).mono ?_
    rintro e w3 ⟨rfl, k3⟩
    have k03 := k02.trans k3
    go_wp2_with fail
    refine (Add_any a b ca cb la lb w3 hca hcb (by omega) (by omega) (hra.keep k03) (hrb.keep k03) hma hmb).mono ?_
    rintro e w4 ⟨v4, rfl, n4, k4⟩
    obtain ⟨a4, c4, l4, rfl, hc4, r4, m4, p4, e4, -⟩ := n4.shape
    have k04 := k03.trans k4
    go_wp2_with fail
    refine (rAdd_any a b ca cb la lb w4 (by omega) (by omega) (hra.keep k04) (hrb.keep k04) hma hmb).mono ?_
    rintro e w5 ⟨v5, l5, rfl, o5, m5, p5, e5, k5⟩
    obtain ⟨a5, c5, rfl, hc5, r5⟩ := o5.shape
    have k05 := k04.trans k5
    obtain rfl : l5 = l4 := val_inj m5 m4 p5 p4 (by omega)
    have s5 := Same_any a4 a5 c4 c5 l5 w5 (by have := len_le_pow p5 (la.length + lb.length + 1) (sum_bound hma hmb e5); omega) (r4.keep k5) r5
    clear n4 o5 e4 e5
    go_wp2_with fail
    refine s5.mono ?_
    rintro e w6 ⟨rfl, d6⟩
    have k06 := k05.trans d6.keep
    clear s5
    have s6 := fun wx => Same_any none none 0 0 [] wx (by simp) (Rd.nil _ _) (Rd.nil _ _)
    go_wp2_with fail
    refine (s6 w6).mono ?_
    rintro e w7 ⟨rfl, d7⟩
    have k07 := k06.trans d7.keep
    clear s6
    go_wp2_with fail
    refine (hrest w7 k07).mono ?_
    rintro e w8 ⟨v8, rfl, n8, k8⟩
    obtain ⟨a8, c8, l8, rfl, hc8, r8, m8, p8, e8, -⟩ := n8.natR.shape
    have k08 := k07.trans k8
    go_wp2_with fail
    refine (rMul_any a b ca cb la lb w8 (by omega) (by omega) (by omega) (hra.keep k08) (hrb.keep k08) hma hmb).mono ?_
    rintro e w9 ⟨v9, l9, rfl, o9, m9, p9, e9, k9⟩
    obtain ⟨a9, c9, rfl, hc9, r9⟩ := o9.shape
    have k09 := k08.trans k9
    obtain rfl : l9 = l8 := val_inj m9 m8 p9 p8 (by omega)
    have s9 := Same_any a8 a9 c8 c9 l9 w9 (by have := len_le_pow p9 (la.length + lb.length) (mul_bound hma hmb e9); omega) (r8.keep k9) r9
    clear n8 o9 e8 e9
    go_wp2_with fail
    refine s9.mono ?_
    rintro e w10 ⟨rfl, d10⟩
    clear s9
    go_wp2_with fail
    go_ret
    exact ⟨rfl, k09.trans d10.keep⟩
  · go_enter Tryd.func5, Tryd.ntmps5
    go_wp2_with fail
    refine (Sub_any a b ca cb la lb w hca hcb (by omega) (by omega) hra hrb hma hmb).mono ?_
    rintro e w1 ⟨hor, k1⟩
    have hor : ∃ v, e = .returned (.tuple #[v, .int .i64 0]) ∧ NatR w.heap.size w1 v (val la - val lb) := by rcases hor with ⟨h, -⟩ | ⟨-, h⟩; omega; exact h
    obtain ⟨v1, rfl, n1⟩ := hor
    obtain ⟨a1, c1, l1, rfl, hc1, r1, m1, p1, e1, -⟩ := n1.shape
    clear n1
    go_wp2_with fail
    refine (rSub_any a b ca cb la lb w1 hca hcb (by omega) (by omega) (hra.keep k1) (hrb.keep k1) hma hmb).mono ?_
    rintro e w2 ⟨hor, k2⟩
    have hor : ∃ v l, e = .returned (.tuple #[v, .int .i64 0]) ∧ Own w1.heap.size w2 v l ∧ Lim l ∧ Nrm l ∧ val l = val la - val lb := by rcases hor with ⟨h, -⟩ | ⟨-, h⟩; omega; exact h
    obtain ⟨v2, l2, rfl, o2, m2, p2, e2⟩ := hor
    obtain ⟨a2, c2, rfl, hc2, r2⟩ := o2.shape
    have k02 := k1.trans k2
    have hl1 := len_le_of_val (l := l1) p1 hma (by omega)
    obtain rfl : l2 = l1 := val_inj m2 m1 p2 p1 (by omega)
    have r1 := r1.keep k2
    clear o2 e1 e2
    go_wp2_with fail
    refine (lives_any w2).mono ?_
    rintro e w3 ⟨rfl, k3⟩
    have k03 := k02.trans k3
    have r1 := r1.keep k3
    have r2 := r2.keep k3
    go_wp2_with fail
    refine (Add_any a b ca cb la lb w3 hca hcb (by omega) (by omega) (hra.keep k03) (hrb.keep k03) hma hmb).mono ?_
    rintro e w4 ⟨v4, rfl, n4, k4⟩
    obtain ⟨a4, c4, l4, rfl, hc4, r4, m4, p4, e4, -⟩ := n4.shape
    have k04 := k03.trans k4
    have r1 := r1.keep k4
    have r2 := r2.keep k4
    go_wp2_with fail
    refine (rAdd_any a b ca cb la lb w4 (by omega) (by omega) (hra.keep k04) (hrb.keep k04) hma hmb).mono ?_
    rintro e w5 ⟨v5, l5, rfl, o5, m5, p5, e5, k5⟩
    obtain ⟨a5, c5, rfl, hc5, r5⟩ := o5.shape
    have k05 := k04.trans k5
    have r1 := r1.keep k5
    have r2 := r2.keep k5
    obtain rfl : l5 = l4 := val_inj m5 m4 p5 p4 (by omega)
    have s5 := Same_any a4 a5 c4 c5 l5 w5 (by have := len_le_pow p5 (la.length + lb.length + 1) (sum_bound hma hmb e5); omega) (r4.keep k5) r5
    clear n4 o5 e4 e5
    go_wp2_with fail
    refine s5.mono ?_
    rintro e w6 ⟨rfl, d6⟩
    have k06 := k05.trans d6.keep
    clear s5
    have s6 := Same_any a1 a2 c1 c2 l2 w6 (by omega) (r1.keep d6.keep) (r2.keep d6.keep)
    go_wp2_with fail
    refine s6.mono ?_
    rintro e w7 ⟨rfl, d7⟩
    have k07 := k06.trans d7.keep
    clear s6
    go_wp2_with fail
    refine (hrest w7 k07).mono ?_
    rintro e w8 ⟨v8, rfl, n8, k8⟩
    obtain ⟨a8, c8, l8, rfl, hc8, r8, m8, p8, e8, -⟩ := n8.natR.shape
    have k08 := k07.trans k8
    go_wp2_with fail
    refine (rMul_any a b ca cb la lb w8 (by omega) (by omega) (by omega) (hra.keep k08) (hrb.keep k08) hma hmb).mono ?_
    rintro e w9 ⟨v9, l9, rfl, o9, m9, p9, e9, k9⟩
    obtain ⟨a9, c9, rfl, hc9, r9⟩ := o9.shape
    have k09 := k08.trans k9
    obtain rfl : l9 = l8 := val_inj m9 m8 p9 p8 (by omega)
    have s9 := Same_any a8 a9 c8 c9 l9 w9 (by have := len_le_pow p9 (la.length + lb.length) (mul_bound hma hmb e9); omega) (r8.keep k9) r9
    clear n8 o9 e8 e9
    go_wp2_with fail
    refine s9.mono ?_
    rintro e w10 ⟨rfl, d10⟩
    clear s9
    go_wp2_with fail
    go_ret
    exact ⟨rfl, k09.trans d10.keep⟩
end Go.Proofs.YtbjidpooociamaaDoor
