import Derived.Test.YtbjidpooociamaaDoorC10
set_option linter.unusedVariables false
set_option linter.unusedSimpArgs false
namespace Go.Proofs.YtbjidpooociamaaDoor
open Go.RowKit Lb
set_option maxRecDepth 100000 in
set_option maxHeartbeats 400000 in
theorem divisor64_any (x y : Nat) (w : World) (hx : x < 18446744073709551616) (hy : y < 18446744073709551616) :
    Calls Tryd.prog 109 #[.int .u64 (x : Nat), .int .u64 (y : Nat)] w fun e w' => e = .returned (.int .u64 (Nat.gcd x y : Nat)) ∧ Dr w w' := by
  go_enter Tryd.func109, Tryd.ntmps109
  go_wp2
  go_loopw [0, 1] (fun s t wr => ∃ p q : Nat, p < 18446744073709551616 ∧ q < 18446744073709551616 ∧ s = .int .u64 (p : Nat) ∧ t = .int .u64 (q : Nat) ∧ Hid (Nat.gcd p q = Nat.gcd x y) ∧ Dr w wr) (fun _ t _ => (intOf t).toNat)
  case atStart => exact ⟨x, y, hx, hy, rfl, rfl, rfl, Dr.refl _⟩
  case round =>
    obtain ⟨p, q, hp, hq, rfl, rfl, hg, hd⟩ := hrel
    by_cases h0 : q = 0
    · subst h0
      go_wp2
      go_ret
      exact ⟨ret_int (by rw [← hg.out, Nat.gcd_zero_right]), hd⟩
    · have hne : ((q : Int) != 0) = true := by simp; omega
      have hne' : ¬ (q : Int) = 0 := by omega
      go_wp2
      go_region
      go_wp2
      go_roundw
      case rel => exact ⟨q, p % q, hq, Nat.lt_of_le_of_lt (Nat.mod_le _ _) hp, rfl, by simp, by show _ = _; rw [← hg.out, Nat.gcd_comm q, ← Nat.gcd_rec, Nat.gcd_comm], hd.drewN 1⟩
      case measure =>
        have := Nat.mod_lt p (show 0 < q by omega)
        rw [show intOf (.int .u64 ((p : Int) % (q : Int))) = ((p % q : Nat) : Int) from by simp [intOf]]
        simp [intOf]; omega

set_option maxRecDepth 100000 in
set_option maxHeartbeats 400000 in
theorem DivMod_of (a b : Option Addr) (ca cb : Nat) (la lb : List Nat) (w : World) (hca : la.length ≤ ca) (hcb : lb.length ≤ cb) (hla : la.length ≤ 70368744177664) (hlb : lb.length ≤ 70368744177664) (hra : Rd w a la) (hrb : Rd w b lb)
    (hb0 : nl lb ≠ 0)
    (hdiv : Calls Tryd.prog 80 #[.slice a (nl la) ca, .slice b (nl lb) cb] w fun e w' => ∃ vq vr, e = .returned (.tuple #[vq, vr]) ∧ NatR w.heap.size w' vq (val la / val lb) ∧ NatR w.heap.size w' vr (val la % val lb) ∧ Keep w w') :
    Calls Tryd.prog 37 #[.slice a la.length ca, .slice b lb.length cb] w fun e w' => ∃ vq vr, e = .returned (.tuple #[vq, vr, .int .i64 0]) ∧ NatR w.heap.size w' vq (val la / val lb) ∧ NatR w.heap.size w' vr (val la % val lb) ∧ Keep w w' := by
  have t1 := trim_any a ca la w hca (by omega) hra
  have t2 := trim_any b cb lb w hcb (by omega) hrb
  have h0 : ((nl lb : Int) == 0) = false := by simp; omega
  go_enter Tryd.func37, Tryd.ntmps37
  go_wp2_with fail
  refine t1.mono ?_
  rintro e w' ⟨rfl, rfl⟩
  go_wp2_with fail
  refine t2.mono ?_
  rintro e w' ⟨rfl, rfl⟩
  go_wp2_with fail
  refine hdiv.mono ?_
  rintro e w1 ⟨vq, vr, rfl, hq, hr, hk⟩
  go_wp2
  go_ret3
  exact ⟨_, _, rfl, hq, hr, hk⟩

/-- Two limbs and fewer: a number. -/
theorem val_two {l : List Nat} (h : Lim l) (h2 : l.length ≤ 2) : val l < 18446744073709551616 := by
  have h1 := val_lt h
  have h3 : 4294967296 ^ l.length ≤ 4294967296 ^ 2 := Nat.pow_le_pow_right (by omega) h2
  omega
theorem NatR.shape {B : Nat} {w : World} {v : Value} {n : Nat} (h : NatR B w v n) : ∃ a c l, v = .slice a l.length c ∧ l.length ≤ c ∧ Rd w a l ∧ Lim l ∧ Nrm l ∧ val l = n ∧ Res B w v l := by
  obtain ⟨l, h1, h2, h3, h4⟩ := h
  obtain ⟨a, c, e, hc, hr⟩ := h1.shape
  exact ⟨a, c, l, e, hc, hr, h2, h3, h4, h1⟩
theorem len_two {l : List Nat} (n : Nrm l) (h : val l < 18446744073709551616) : l.length ≤ 2 := by
  rcases Nat.lt_or_ge 2 l.length with h2 | h2
  · have h1 := val_ge n (by intro h0; simp [h0] at h2)
    have h3 : 4294967296 ^ 2 ≤ 4294967296 ^ (l.length - 1) := Nat.pow_le_pow_right (by omega) (by omega)
    omega
  · exact h2

set_option maxRecDepth 100000 in
set_option maxHeartbeats 400000 in
theorem divisor_two (a b : Option Addr) (ca cb : Nat) (la lb : List Nat) (w : World) (hla : la.length ≤ 70368744177664) (hlb : lb.length ≤ 2) (hra : Rd w a la) (hrb : Rd w b lb) (hma : Lim la) (hmb : Lim lb) (na : Nrm la) (nb : Nrm lb) (hb0 : lb ≠ []) (hge : ¬ val la < val lb)
    (hdiv : ∀ w1, Keep w w1 → Calls Tryd.prog 80 #[.slice a la.length ca, .slice b lb.length cb] w1 fun e w' => ∃ vq vr, e = .returned (.tuple #[vq, vr]) ∧ NatR w1.heap.size w' vq (val la / val lb) ∧ NatR w1.heap.size w' vr (val la % val lb) ∧ Keep w1 w') :
    Calls Tryd.prog 82 #[.slice a la.length ca, .slice b lb.length cb] w fun e w' => ∃ v, e = .returned v ∧ NatR w.heap.size w' v (Nat.gcd (val la) (val lb)) ∧ Keep w w' := by
  have hcm := cmpL_ge hma hmb na nb hge
  have hc := compare_any a b ca cb la lb w (by omega) (by omega) hra hrb
  generalize cmpL la lb = z at hcm hc
  have hz : decide (z < 0) = false := by simp; omega
  have hl0 : 0 < lb.length := List.length_pos_iff.2 hb0
  have h0 : ((lb.length : Int) == 0) = false := by simp; omega
  go_enter Tryd.func82, Tryd.ntmps82
  go_wp2_with fail
  refine hc.mono ?_
  rintro e w1 ⟨rfl, hd⟩
  go_wp2_with fail
  refine wp_loop_rounds 1 ?_
  rw [rounds_succ]
  go_wp2_with fail
  refine (hdiv w1 hd.keep).mono ?_
  rintro e w2 ⟨vq, vr, rfl, hq, hr, hk⟩
  obtain ⟨ar, cr, lr, rfl, hcr, hrr, hmr, nr, hvr, -⟩ := hr.shape
  have hk2 := hd.keep.trans hk
  have hb2 := val_two hmb hlb
  have hv0 : 0 < val lb := by
    have := val_ge nb hb0
    have h1 : 0 < 4294967296 ^ (lb.length - 1) := Nat.pos_of_ne_zero (by simp)
    omega
  have hrl : val lr < 18446744073709551616 := by rw [hvr]; exact Nat.lt_trans (Nat.mod_lt _ hv0) hb2
  have hlr := len_two nr hrl
  have L1 := low64_any b cb lb w2 (by omega) (hrb.keep hk2) hmb
  rw [List.take_of_length_le hlb] at L1
  have L2 := low64_any ar cr lr w2 (by omega) hrr hmr
  rw [List.take_of_length_le hlr] at L2
  have G := divisor64_any (val lb) (val lr) w2 hb2 hrl
  rw [hvr, Nat.gcd_comm, ← Nat.gcd_rec, Nat.gcd_comm] at G
  have hgl : Nat.gcd (val la) (val lb) < 18446744073709551616 := Nat.lt_of_le_of_lt (Nat.gcd_le_right _ hv0) hb2
  have F := fun w3 => From_any (Nat.gcd (val la) (val lb)) w3 hgl
  rw [hvr] at L2
  clear hvr
  go_wp2_with fail
  refine L1.mono ?_
  rintro e w3 ⟨rfl, rfl⟩
  go_wp2_with fail
  refine L2.mono ?_
  rintro e w3 ⟨rfl, rfl⟩
  go_wp2_with fail
  refine G.mono ?_
  rintro e w4 ⟨rfl, hd4⟩
  go_wp2_with fail
  refine (F w4).mono ?_
  rintro e w5 ⟨v, l, rfl, hres, hlim, hnrm, hval, hk5⟩
  go_wp2
  go_ret
  exact ⟨_, rfl, ⟨l, hres.mono (hk2.trans hd4.keep).le, hlim, hnrm, hval⟩, (hk2.trans hd4.keep).trans hk5⟩
set_option maxRecDepth 100000 in
set_option maxHeartbeats 400000 in
theorem divisor_swap (a b : Option Addr) (ca cb : Nat) (la lb : List Nat) (w : World) (hla : la.length ≤ 70368744177664) (hlb : lb.length ≤ 2) (hra : Rd w a la) (hrb : Rd w b lb) (hma : Lim la) (hmb : Lim lb) (na : Nrm la) (nb : Nrm lb) (hb0 : lb ≠ []) (hlt : val lb < val la)
    (hdiv : ∀ w1, Keep w w1 → Calls Tryd.prog 80 #[.slice a la.length ca, .slice b lb.length cb] w1 fun e w' => ∃ vq vr, e = .returned (.tuple #[vq, vr]) ∧ NatR w1.heap.size w' vq (val la / val lb) ∧ NatR w1.heap.size w' vr (val la % val lb) ∧ Keep w1 w') :
    Calls Tryd.prog 82 #[.slice b lb.length cb, .slice a la.length ca] w fun e w' => ∃ v, e = .returned v ∧ NatR w.heap.size w' v (Nat.gcd (val la) (val lb)) ∧ Keep w w' := by
  have hcm := cmpL_lt hmb hma nb na hlt
  have hc := compare_any b a cb ca lb la w (by omega) (by omega) hrb hra
  rw [hcm] at hc
  clear hcm
  have hl0 : 0 < lb.length := List.length_pos_iff.2 hb0
  have h0 : ((lb.length : Int) == 0) = false := by simp; omega
  go_enter Tryd.func82, Tryd.ntmps82
  go_wp2_with fail
  refine hc.mono ?_
  rintro e w1 ⟨rfl, hd⟩
  go_wp2_with fail
  refine wp_loop_rounds 1 ?_
  rw [rounds_succ]
  go_wp2_with fail
  refine (hdiv w1 hd.keep).mono ?_
  rintro e w2 ⟨vq, vr, rfl, hq, hr, hk⟩
  obtain ⟨ar, cr, lr, rfl, hcr, hrr, hmr, nr, hvr, -⟩ := hr.shape
  have hk2 := hd.keep.trans hk
  have hb2 := val_two hmb hlb
  have hv0 : 0 < val lb := by
    have := val_ge nb hb0
    have h1 : 0 < 4294967296 ^ (lb.length - 1) := Nat.pos_of_ne_zero (by simp)
    omega
  have hrl : val lr < 18446744073709551616 := by rw [hvr]; exact Nat.lt_trans (Nat.mod_lt _ hv0) hb2
  have hlr := len_two nr hrl
  have L1 := low64_any b cb lb w2 (by omega) (hrb.keep hk2) hmb
  rw [List.take_of_length_le hlb] at L1
  have L2 := low64_any ar cr lr w2 (by omega) hrr hmr
  rw [List.take_of_length_le hlr] at L2
  have G := divisor64_any (val lb) (val lr) w2 hb2 hrl
  rw [hvr, Nat.gcd_comm, ← Nat.gcd_rec, Nat.gcd_comm] at G
  have hgl : Nat.gcd (val la) (val lb) < 18446744073709551616 := Nat.lt_of_le_of_lt (Nat.gcd_le_right _ hv0) hb2
  have F := fun w3 => From_any (Nat.gcd (val la) (val lb)) w3 hgl
  rw [hvr] at L2
  clear hvr
  go_wp2_with fail
  refine L1.mono ?_
  rintro e w3 ⟨rfl, rfl⟩
  go_wp2_with fail
  refine L2.mono ?_
  rintro e w3 ⟨rfl, rfl⟩
  go_wp2_with fail
  refine G.mono ?_
  rintro e w4 ⟨rfl, hd4⟩
  go_wp2_with fail
  refine (F w4).mono ?_
  rintro e w5 ⟨v, l, rfl, hres, hlim, hnrm, hval, hk5⟩
  go_wp2
  go_ret
  exact ⟨_, rfl, ⟨l, hres.mono (hk2.trans hd4.keep).le, hlim, hnrm, hval⟩, (hk2.trans hd4.keep).trans hk5⟩

set_option maxRecDepth 100000 in
set_option maxHeartbeats 400000 in
theorem divisor_zero (a b : Option Addr) (ca cb : Nat) (la : List Nat) (w : World) (hla : la.length ≤ 70368744177664) (hra : Rd w a la) (hma : Lim la) (na : Nrm la) :
    Calls Tryd.prog 82 #[.slice a la.length ca, .slice b 0 cb] w fun e w' => ∃ v, e = .returned v ∧ NatR w.heap.size w' v (val la) ∧ Keep w w' := by
  have hcm := cmpL_ge hma (show Lim [] by intro x hx; simp at hx) na (show Nrm [] by simp [Nrm]) (by simp [val])
  have hc := compare_any a b ca cb la [] w (by omega) (by simp) hra (Rd.nil _ _)
  have hf := fun w1 (hk : Keep w w1) => fresh_any a ca la w1 hla (hra.keep hk)
  generalize cmpL la [] = z at hcm hc
  have hz : decide (z < 0) = false := by simp; omega
  go_enter Tryd.func82, Tryd.ntmps82
  go_wp2_with fail
  refine hc.mono ?_
  rintro e w1 ⟨rfl, hd⟩
  go_wp2_with fail
  refine wp_loop_rounds 1 ?_
  rw [rounds_succ]
  go_wp2_with fail
  refine (hf w1 hd.keep).mono ?_
  rintro e w2 ⟨rfl, hrow, hk, -⟩
  go_wp2
  go_ret
  exact ⟨_, rfl, ⟨la, (hrow.res (Nat.le_refl _)).mono hd.keep.le, hma, na, rfl⟩, hd.keep.trans hk⟩

/-- What divide does, up to so many limbs of the divisor. -/
def DivideSaid (K : Nat) : Prop := ∀ (a b : Option Addr) (ca cb : Nat) (la lb : List Nat) (w : World), la.length ≤ 70368744177663 → lb.length ≤ K → Rd w a la → Rd w b lb → Lim la → Lim lb → Nrm la → Nrm lb → lb ≠ [] →
    Calls Tryd.prog 80 #[.slice a la.length ca, .slice b lb.length cb] w fun e w' => ∃ vq vr, e = .returned (.tuple #[vq, vr]) ∧ NatR w.heap.size w' vq (val la / val lb) ∧ NatR w.heap.size w' vr (val la % val lb) ∧ Keep w w'
def DivisorSaid (K : Nat) : Prop := ∀ (a b : Option Addr) (ca cb : Nat) (la lb : List Nat) (w : World), la.length ≤ 70368744177663 → lb.length ≤ 70368744177663 → lb.length ≤ K → Rd w a la → Rd w b lb → Lim la → Lim lb → Nrm la → Nrm lb → la ≠ [] → lb ≠ [] →
    Calls Tryd.prog 82 #[.slice a la.length ca, .slice b lb.length cb] w fun e w' => ∃ v, e = .returned v ∧ NatR w.heap.size w' v (Nat.gcd (val la) (val lb)) ∧ Keep w w'
theorem divide_K1 : DivideSaid 1 := by
  intro a b ca cb la lb w hla hlb hra hrb hma hmb na nb hb0
  by_cases hlt : val la < val lb
  · exact divide_less a b ca cb la lb w (by omega) (by omega) hra hrb hma hmb na nb hlt
  · have hl1 : 0 < lb.length := List.length_pos_iff.2 hb0
    obtain ⟨y, rfl⟩ : ∃ y, lb = [y] := List.length_eq_one_iff.1 (by omega)
    have hy : y < 4294967296 := hmb y (by simp)
    have hy0 : 0 < y := by simp [Nrm] at nb; omega
    have hv : val [y] = y := by simp [val]
    rw [hv] at hlt ⊢
    exact divide_one a b ca cb la y w (by omega) hra hrb hma na hy0 hy hlt
theorem divisor_small (K : Nat) (hK : K ≤ 2) (hD : DivideSaid K) : DivisorSaid K := by
  intro a b ca cb la lb w hla hlb' hlb hra hrb hma hmb na nb ha0 hb0
  by_cases hlt : val la < val lb
  · have hl := Nat.lt_irrefl
    have h2 : la.length ≤ lb.length := by
      rcases Nat.lt_or_ge lb.length la.length with h | h
      · have := len_lt_val hmb na h; omega
      · exact h
    have := divisor_swap b a cb ca lb la w (by omega) (by omega) hrb hra hmb hma nb na ha0 hlt (fun w1 hk => hD b a cb ca lb la w1 hlb' (by omega) (hrb.keep hk) (hra.keep hk) hmb hma nb na ha0)
    rw [Nat.gcd_comm]
    exact this
  · exact divisor_two a b ca cb la lb w (by omega) (by omega) hra hrb hma hmb na nb hb0 hlt (fun w1 hk => hD a b ca cb la lb w1 hla hlb (hra.keep hk) (hrb.keep hk) hma hmb na nb hb0)
end Go.Proofs.YtbjidpooociamaaDoor
