import Derived.Test.YtgciimjcdhallaaDoorT14
set_option linter.unusedVariables false
set_option linter.unusedSimpArgs false
namespace Go.Proofs.YtgciimjcdhallaaDoor
open Go.RowKit Go.Shelf
theorem risDigit_any (c : UInt8) (w : World) : Calls Tryd.prog 12 #[.int .u8 (c.toNat : Int)] w fun e w' => e = .returned (.bool (isD c)) ∧ w' = w := by
  obtain ⟨x, hx⟩ : ∃ x, c.toNat = x := ⟨_, rfl⟩
  obtain ⟨b1, e1⟩ : ∃ b, decide ((48 : Int) ≤ (x : Int)) = b := ⟨_, rfl⟩
  obtain ⟨b2, e2⟩ : ∃ b, decide ((x : Int) ≤ 57) = b := ⟨_, rfl⟩
  have H : Hid (isD c = (b1 && b2)) := by
    unfold Hid isD
    rw [hx, ← e1, ← e2, ← Bool.decide_and]
    congr 1
    apply propext
    omega
  rw [hx]
  generalize isD c = v at *
  cases b1 <;> cases b2 <;> (go_enter Tryd.func12, Tryd.ntmps12; go_wp2_with fail; go_ret; exact ⟨by rw [H.out]; rfl, rfl⟩)
theorem sgE_true (u : Nat) : sgE true u = if u ≤ 9223372036854775808 then 0 else 41 := by unfold sgE; simp
theorem sgE_false (u : Nat) : sgE false u = if u < 9223372036854775808 then 0 else 41 := by unfold sgE; simp
set_option maxRecDepth 100000 in
set_option maxHeartbeats 400000 in
theorem rsigned_any (neg : Bool) (u : Nat) (hu : u < 18446744073709551616) (w : World) : Calls Tryd.prog 20 #[.bool neg, .int .u64 (u : Nat)] w fun e w' => (∃ X, e = .returned (.tuple #[.int .i64 X, .bool (decide (sgE neg u = 0))]) ∧ (sgE neg u = 0 → X = sgV neg u)) ∧ w' = w := by
  have HV : Hid (sgV neg u = if neg = true ∧ u ≤ 9223372036854775808 then -(u : Int) else if neg = false ∧ u < 9223372036854775808 then (u : Int) else 0) := rfl
  cases neg
  · rw [sgE_false]
    by_cases h : u < 9223372036854775808
    · have d : decide ((u : Int) < 9223372036854775808) = true := decide_eq_true (by omega)
      have e : wrap64 (u : Int) = u := IntWalk.wrap64_in _ (by omega)
      have v1 : sgV false u = (u : Int) := by rw [HV.out]; simp [h]
      rw [v1, if_pos h]
      clear HV h hu v1
      go_enter Tryd.func20, Tryd.ntmps20
      go_wp2_with fail
      go_ret2
      exact ⟨⟨_, by first | rfl | simp [e], fun _ => rfl⟩, rfl⟩
    · have d : decide ((u : Int) < 9223372036854775808) = false := decide_eq_false (by omega)
      rw [if_neg h]
      clear HV h hu
      go_enter Tryd.func20, Tryd.ntmps20
      go_wp2_with fail
      go_ret2
      exact ⟨⟨_, rfl, fun q => by cases q⟩, rfl⟩
  · rw [sgE_true]
    by_cases h : u ≤ 9223372036854775808
    · have d : decide ((u : Int) ≤ 9223372036854775808) = true := decide_eq_true (by omega)
      have e := neg_wrap u h
      have v1 : sgV true u = -(u : Int) := by rw [HV.out]; simp [h]
      rw [v1, if_pos h]
      clear HV h hu v1
      go_enter Tryd.func20, Tryd.ntmps20
      go_wp2_with fail
      go_ret2
      exact ⟨⟨_, by first | rfl | simp [e], fun _ => rfl⟩, rfl⟩
    · have d : decide ((u : Int) ≤ 9223372036854775808) = false := decide_eq_false (by omega)
      have d2 : decide ((u : Int) < 9223372036854775808) = false := decide_eq_false (by omega)
      rw [if_neg h]
      clear HV h hu
      go_enter Tryd.func20, Tryd.ntmps20
      go_wp2_with fail
      go_ret2
      exact ⟨⟨_, rfl, fun q => by cases q⟩, rfl⟩
end Go.Proofs.YtgciimjcdhallaaDoor
set_option linter.unusedVariables false
set_option linter.unusedSimpArgs false
namespace Go.Proofs.YtgciimjcdhallaaDoor
open Go.RowKit Go.Shelf
theorem nat_take_le {l : List UInt8} (i : Nat) : nat (l.take i) ≤ nat l := by
  have h : nat l = nat (l.take i ++ l.drop i) := by rw [List.take_append_drop]
  rw [h, nat_append]
  have : 1 ≤ 10 ^ (l.drop i).length := Nat.pow_pos (by omega)
  have h2 : nat (l.take i) * 1 ≤ nat (l.take i) * 10 ^ (l.drop i).length := Nat.mul_le_mul_left _ this
  omega
theorem sgE_big (neg : Bool) {N : Nat} (h : 9223372036854775808 < N) : decide (sgE neg N = 0) = false := by
  cases neg
  · rw [sgE_false, if_neg (by omega)]; rfl
  · rw [sgE_true, if_neg (by omega)]; rfl
set_option maxRecDepth 100000 in
set_option maxHeartbeats 2000000 in
theorem whole_any (neg : Bool) (l : List UInt8) (w : World) (hl : l.length ≤ 8192) (hd : allD l) : Calls Tryd.prog 13 #[.bool neg, .string ⟨l.toArray⟩] w fun e w' => (∃ X, e = .returned (.tuple #[.int .i64 X, .bool (decide (sgE neg (nat l) = 0))]) ∧ (sgE neg (nat l) = 0 → X = sgV neg (nat l))) ∧ Keep w w' := by
  have s1 : (ByteArray.mk l.toArray).size = l.length := sz_mk l
  obtain ⟨L, hL⟩ : ∃ L, l.length = L := ⟨_, rfl⟩
  rw [hL] at s1 hl
  have hAD : Hid (allD l) := hd
  clear hd
  go_enter Tryd.func13, Tryd.ntmps13
  go_wp2_with fail
  go_loopg [6, 7] (L) (fun g v2 v3 wx => ∃ i : Nat, i + g = L ∧ v2 = .int .u64 ((nat (l.take i) : Nat) : Int) ∧ v3 = .int .i64 (i : Int) ∧ nat (l.take i) ≤ 9223372036854775808 ∧ wx = w)
  case atStart => exact ⟨0, by omega, by simp [nat], rfl, by simp [nat], rfl⟩
  case round =>
    obtain ⟨i, hig, rfl, rfl, hle, rfl⟩ := hrel
    obtain ⟨n, hn⟩ : ∃ n, nat (l.take i) = n := ⟨_, rfl⟩
    rw [hn] at hle ⊢
    by_cases hil : i < L
    · have hil2 : i < l.length := by omega
      have hix := fun wx => run_ix l i hil2 wx
      have hst := nat_step l i hil2
      have hb := gd_bounds hAD.out hil2
      rw [hn] at hst
      unfold dv at hst
      obtain ⟨x, hx⟩ : ∃ x, (l.getD i 0).toNat = x := ⟨_, rfl⟩
      rw [hx] at hix hst hb
      obtain ⟨hb1, hb2⟩ := hb
      have w1 : IntKind.u8.wrap ((x : Int) - 48) = ((x - 48 : Nat) : Int) := by
        rw [show (x : Int) - 48 = ((x - 48 : Nat) : Int) by omega]
        obtain ⟨z, hz⟩ : ∃ z, x - 48 = z := ⟨_, rfl⟩
        have : z ≤ 9 := by omega
        rw [hz]
        obtain rfl | rfl | rfl | rfl | rfl | rfl | rfl | rfl | rfl | rfl : z = 0 ∨ z = 1 ∨ z = 2 ∨ z = 3 ∨ z = 4 ∨ z = 5 ∨ z = 6 ∨ z = 7 ∨ z = 8 ∨ z = 9 := by omega
        all_goals rfl
      obtain ⟨y, hy⟩ : ∃ y, x - 48 = y := ⟨_, rfl⟩
      rw [hy] at w1 hst
      have hy9 : y ≤ 9 := by omega
      have hile : (i : Int) < (L : Int) := by omega
      replace hst : Hid _ := hst
      replace hn : Hid _ := hn
      clear hx hy hil2
      by_cases hf : n * 10 + y ≤ 9223372036854775808
      · go_wp2_with fail
        go_roundg (gk - 1)
        case measure => omega
        case rel =>
          refine ⟨i + 1, by omega, ?_, by simp, ?_, rfl⟩
          · rw [hst.out]
            congr 1
            omega
          · rw [hst.out]
            exact hf
      · have hbig : 9223372036854775808 < nat l := by
          have h1 := nat_take_le (l := l) (i + 1)
          rw [hst.out] at h1
          omega
        have hE := sgE_big neg hbig
        replace hE : Hid _ := hE
        replace hbig : Hid _ := hbig
        go_wp2_with fail
        go_ret2
        refine ⟨⟨0, by rw [hE.out]; rfl, fun q => ?_⟩, Keep.refl _⟩
        have := of_decide_eq_false hE.out
        exact absurd q this
    · obtain rfl : i = L := by omega
      rw [← hL, List.take_length] at hn
      subst hn
      have hSg := fun wx => rsigned_any neg (nat l) (by omega) wx
      have hile : ¬ (i : Int) < (i : Int) := by omega
      replace hSg : Hid _ := hSg
      go_wp2_with (go_at_call 20; refine (hSg.out _).mono ?_; rintro e w2 ⟨⟨X, rfl, hX⟩, rfl⟩; replace hX : Hid _ := hX)
      go_ret2
      exact ⟨⟨X, rfl, hX.out⟩, Keep.refl _⟩
end Go.Proofs.YtgciimjcdhallaaDoor
set_option linter.unusedVariables false
set_option linter.unusedSimpArgs false
namespace Go.Proofs.YtgciimjcdhallaaDoor
open Go.RowKit Go.Shelf
set_option maxRecDepth 100000 in
set_option maxHeartbeats 2000000 in
theorem rRead_long (s : List UInt8) (w : World) (hs : ¬ s.length ≤ 4096) (hm : s.length ≤ 9223372036854775807) :
    Calls Tryd.prog 5 #[.string ⟨s.toArray⟩] w fun e w' => e = .returned (.tuple #[.int .i64 0, .int .i64 4, .int .i64 0]) ∧ Keep w w' := by
  have s1 : (ByteArray.mk s.toArray).size = s.length := sz_mk s
  obtain ⟨L, hL⟩ : ∃ L, s.length = L := ⟨_, rfl⟩
  rw [hL] at s1 hs hm
  have hL1 : (4096 : Int) < (L : Int) := by omega
  go_enter Tryd.func5, Tryd.ntmps5
  go_wp2_with fail
  go_ret3
  exact ⟨rfl, Keep.refl w⟩
theorem dg_all (s : List UInt8) (k j : Nat) (hj : k + j ≤ s.length) (h1 : ∀ i, i < j → k + i < s.length ∧ isD (s.getD (k + i) 0) = true) (h2 : ¬ (k + j < s.length ∧ isD (s.getD (k + j) 0) = true)) : dg s k s.length = (s.take (k + j)).drop k ∧ (dg s k s.length).length = j := dg_end s k s.length j (by omega) h1 (.inr h2)
/-- What is said of a text by its reading: the answer's three parts. -/
structure RdA (s : List UInt8) (V E K : Int) : Prop where
  good : rGood s → V = sgV (pNg s) (rN s) ∧ E = sgE (pNg s) (rN s) ∧ K = 0
  bad : ¬ rGood s → V = 0 ∧ E = 40 ∧ K = (pK3 6 s : Int)
theorem RdA.one {s : List UInt8} {V E K V' E' K' : Int} (h : RdA s V E K) (g : RdA s V' E' K') : V = V' ∧ E = E' ∧ K = K' := by
  by_cases q : rGood s
  · obtain ⟨a, b, c⟩ := h.good q
    obtain ⟨a', b', c'⟩ := g.good q
    rw [a, b, c, a', b', c']
    exact ⟨rfl, rfl, rfl⟩
  · obtain ⟨a, b, c⟩ := h.bad q
    obtain ⟨a', b', c'⟩ := g.bad q
    rw [a, b, c, a', b', c']
    exact ⟨rfl, rfl, rfl⟩
theorem RdA.of_bad {s : List UInt8} {K : Int} (hg : ¬ rGood s) (hK : K = (pK3 6 s : Int)) : RdA s 0 40 K := ⟨fun q => absurd q hg, fun _ => ⟨rfl, rfl, hK⟩⟩
theorem RdA.of_good {s : List UInt8} {V E : Int} (hg : rGood s) (hV : V = sgV (pNg s) (rN s)) (hE : E = sgE (pNg s) (rN s)) : RdA s V E 0 := ⟨fun _ => ⟨hV, hE, rfl⟩, fun q => absurd hg q⟩
theorem sg_not (neg : Bool) (N : Nat) (h : ¬ sgE neg N = 0) : sgV neg N = 0 ∧ sgE neg N = 41 := by
  cases neg
  · rw [sgE_false] at h ⊢
    by_cases q : N < 9223372036854775808
    · rw [if_pos q] at h; exact absurd rfl h
    · rw [if_neg q]; exact ⟨by unfold sgV; simp [q], rfl⟩
  · rw [sgE_true] at h ⊢
    by_cases q : N ≤ 9223372036854775808
    · rw [if_pos q] at h; exact absurd rfl h
    · rw [if_neg q]; exact ⟨by unfold sgV; simp [q], rfl⟩
theorem wh_of {s : List UInt8} {K j m : Nat} {X : List UInt8} (hk : pK1 s = K) (hm : m = K + j) (h : dg s K s.length = X ∧ (dg s K s.length).length = j) : pWh s = X ∧ (pWh s).length = j ∧ pK2 s = m := by
  have e : pWh s = dg s K s.length := by unfold pWh; rw [hk]
  refine ⟨by rw [e]; exact h.1, by rw [e]; exact h.2, ?_⟩
  unfold pK2
  rw [hk, e, h.2, hm]
/-- No digits. -/
theorem bad_none {s : List UInt8} {m : Nat} (h : (pWh s).length = 0) (h2 : pK2 s = m) : ¬ rGood s ∧ pK3 6 s = m := by
  have e : pWh s = [] := List.length_eq_zero_iff.1 h
  have hd : pDot s = false := by unfold pDot; rw [e]; rfl
  refine ⟨?_, by unfold pK3; rw [hd]; exact h2⟩
  rintro ⟨a, -⟩
  unfold pOk at a
  rw [e] at a
  cases a
/-- Digits, and no point. -/
theorem no_dot {s : List UInt8} {m : Nat} (h : 0 < (pWh s).length) (h2 : pK2 s = m) (hd : tk s [46] m = false) : pDot s = false ∧ pPt 6 s = [] ∧ pK3 6 s = m ∧ pOk 6 s = true := by
  have hd : pDot s = false := by unfold pDot; rw [h2, hd]; simp
  have e : (pWh s == []) = false := by
    have : pWh s ≠ [] := fun q => by rw [q] at h; simp at h
    simpa using this
  refine ⟨hd, by unfold pPt; rw [hd]; rfl, by unfold pK3; rw [hd]; exact h2, ?_⟩
  unfold pOk
  rw [hd, e]
  rfl
/-- Digits, and a point. -/
theorem with_dot {s : List UInt8} {m t q : Nat} {X : List UInt8} (h : 0 < (pWh s).length) (h2 : pK2 s = m) (hd : tk s [46] m = true) (hp : dg s (m + 1) 6 = X ∧ (dg s (m + 1) 6).length = t) (hq : q = m + 1 + t) : pPt 6 s = X ∧ pK3 6 s = q ∧ (pOk 6 s = true ↔ 0 < t) := by
  have e : (pWh s == []) = false := by
    have : pWh s ≠ [] := fun q => by rw [q] at h; simp at h
    simpa using this
  have hd2 : pDot s = true := by unfold pDot; rw [h2, hd, e]; rfl
  have e1 : pPt 6 s = dg s (m + 1) 6 := by unfold pPt; rw [hd2, h2]; rfl
  refine ⟨by rw [e1]; exact hp.1, by unfold pK3; rw [hd2, e1, hp.2, h2, hq]; rfl, ?_⟩
  unfold pOk
  rw [hd2, e, e1]
  have : (dg s (m + 1) 6 == []) = decide (t = 0) := by
    rw [← hp.2]
    by_cases z : dg s (m + 1) 6 = []
    · rw [z]; rfl
    · have z2 : (dg s (m + 1) 6).length ≠ 0 := fun q => z (List.length_eq_zero_iff.1 q)
      have z3 : (dg s (m + 1) 6 == []) = false := by simpa using z
      rw [z3]
      simp [z2]
  rw [this]
  simp
  omega
theorem rN_of {s wh pt : List UInt8} (h1 : pWh s = wh) (h2 : pPt 6 s = pt) (hl : pt.length ≤ 6) : nat (wh ++ (pt ++ List.replicate (6 - pt.length) 48)) = rN s := by
  unfold rN mv
  rw [h1, h2, if_pos (by omega), ← List.append_assoc, nat_append, nat_zeros, List.length_replicate]
  have : (0 - (pt.length : Int) + 6).toNat = 6 - pt.length := by omega
  rw [this]
  omega
theorem tk_of {s : List UInt8} {m : Nat} {c : UInt8} (hm : m < s.length) (hc : s.getD m 0 = c) : tk s [46] m = decide (c.toNat = 46) := by
  unfold tk
  rw [hc]
  by_cases q : c = 46
  · subst q
    simp [hm]
  · have q2 : ¬ c.toNat = 46 := fun e => q (UInt8.toNat_inj.1 e)
    simp [hm, q, q2]
set_option maxRecDepth 100000 in
set_option maxHeartbeats 2000000 in
theorem rRead_empty (w : World) :
    Calls Tryd.prog 5 #[.string ⟨#[]⟩] w fun e w' => e = .returned (.tuple #[.int .i64 0, .int .i64 40, .int .i64 0]) ∧ Keep w w' := by
  have s1 : (ByteArray.mk #[]).size = 0 := rfl
  go_enter Tryd.func5, Tryd.ntmps5
  go_wp2_with fail
  go_loopg [5] (0) (fun g v5 wx => v5 = .int .i64 0 ∧ wx = w)
  case atStart => exact ⟨rfl, rfl⟩
  case round =>
    obtain ⟨rfl, rfl⟩ := hrel
    go_wp2_with fail
    go_ret3
    exact ⟨rfl, Keep.refl _⟩
end Go.Proofs.YtgciimjcdhallaaDoor
