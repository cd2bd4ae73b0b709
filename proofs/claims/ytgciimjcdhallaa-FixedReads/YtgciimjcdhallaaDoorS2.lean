import Derived.Test.YtgciimjcdhallaaDoorLW
set_option linter.unusedVariables false
set_option linter.unusedSimpArgs false
namespace Go.Proofs.YtgciimjcdhallaaDoor
open Go.RowKit Go.Shelf
/-- A power of ten's size, reckoned; and no power of ten lies so near below a power of two that a quotient by it of 64 bits more could be 2^63. -/
def lg10 (k : Nat) : Nat := k * 3321928094887362347 / 1000000000000000000
def chk (k : Nat) : Bool := Nat.ble (2 ^ lg10 k) (10 ^ k) && (Nat.ble (10 ^ k + 1) (2 ^ (lg10 k + 1)) && Nat.ble (9223372036854775809 * 10 ^ k) (2 ^ (lg10 k + 64)))
theorem chk_all : (List.range 4200).all chk = true := by decide +kernel
theorem near2 {k : Nat} (h : k < 4200) : 9223372036854775809 ≤ 2 ^ (Li.sz (10 ^ k) + 63) / 10 ^ k := by
  have hc := List.all_eq_true.1 chk_all k (List.mem_range.2 h)
  unfold chk at hc
  obtain ⟨h1, h2⟩ := Bool.and_eq_true_iff.1 hc
  obtain ⟨h2, h3⟩ := Bool.and_eq_true_iff.1 h2
  have h1 := Nat.le_of_ble_eq_true h1
  have h2 := Nat.le_of_ble_eq_true h2
  have h3 := Nat.le_of_ble_eq_true h3
  rw [Li.sz_of h1 h2, show lg10 k + 1 + 63 = lg10 k + 64 by omega]
  exact (Nat.le_div_iff_mul_le (Nat.pow_pos (by omega))).2 h3
theorem rup_ge (x y : Nat) : x / y ≤ rup x y := by
  unfold rup
  split <;> omega
theorem rnd_no {x k : Nat} (hx : 0 < x) (hk : k < 4200) (h : Li.rndB x (10 ^ k) = false) : 9223372036854775808 < rup x (10 ^ k) := by
  have hg := rup_ge x (10 ^ k)
  unfold Li.rndB at h
  have h2 := of_decide_eq_false h
  by_cases q : (Li.sz x : Int) - (Li.sz (10 ^ k) : Int) ≤ 63
  · have : ¬ x / 10 ^ k ≤ 9223372036854775808 := fun a => h2 ⟨q, a⟩
    omega
  · obtain ⟨b, c⟩ := Li.sz_ge hx
    have d : 2 ^ (Li.sz (10 ^ k) + 63) ≤ 2 ^ (Li.sz x - 1) := Nat.pow_le_pow_right (by omega) (by omega)
    have e := Nat.div_le_div_right (c := 10 ^ k) (Nat.le_trans d b)
    have f := near2 hk
    omega
theorem rup_one (x : Nat) : rup x 1 = x := by
  unfold rup
  simp [Nat.mod_one]
theorem mv_neg {N : Nat} {p : Int} {k : Nat} (h : p = -(k : Int)) (hk : 0 < k) : mv N p = rup N (10 ^ k) := by
  unfold mv
  rw [if_neg (by omega), show (-p).toNat = k by omega]
theorem mv_pos {N : Nat} {p : Int} {k : Nat} (h : p = (k : Int)) : mv N p = N * 10 ^ k := by
  unfold mv
  rw [if_pos (by omega), show p.toNat = k by omega]
/-- A power beyond all bounds: more than can be said. -/
theorem mv_huge {N : Nat} {p : Int} (hN : 0 < N) (hp : 30 < p) : 10000000000000000000 ≤ mv N p := by
  unfold mv
  rw [if_pos (by omega)]
  have h1 : (10 : Nat) ^ 19 ≤ 10 ^ p.toNat := Nat.pow_le_pow_right (by omega) (by omega)
  have h2 : 1 * 10 ^ p.toNat ≤ N * 10 ^ p.toNat := Nat.mul_le_mul_right _ hN
  have e19 : (10 : Nat) ^ 19 = 10000000000000000000 := by decide
  omega
/-- No digits ahead of the point. -/
theorem o_none {s : List UInt8} (h : pWh s = []) : ¬ oGood s ∧ oEnd s = pK2 s := by
  have hd : pDot s = false := by unfold pDot; rw [h]; rfl
  have hp : pOk s.length s = false := by unfold pOk; rw [h]; rfl
  refine ⟨?_, by unfold oEnd oK pK3; rw [hp, hd]; rfl⟩
  rintro ⟨a, -⟩
  unfold oOk at a
  rw [hp] at a
  cases a
/-- A point, and no digits behind it. -/
theorem o_point {s : List UInt8} (hd : pDot s = true) (h : oPt s = []) : ¬ oGood s ∧ oEnd s = pK2 s + 1 := by
  have hp : pOk s.length s = false := by
    unfold pOk
    have : pPt s.length s = [] := h
    rw [hd, this]
    simp
  refine ⟨?_, ?_⟩
  · rintro ⟨a, -⟩
    unfold oOk at a
    rw [hp] at a
    cases a
  · unfold oEnd oK pK3
    have : pPt s.length s = [] := h
    rw [hp, hd, this]
    rfl
/-- No power. -/
theorem o_plain {s : List UInt8} (hp : pOk s.length s = true) (he : qE s (oK s) = false) : oEnd s = oK s ∧ (oGood s ↔ oK s = s.length) ∧ qP s (oK s) = 0 := by
  have e : oEnd s = oK s := by unfold oEnd qK; rw [hp, he]; rfl
  refine ⟨e, ?_, by unfold qP; rw [he]; rfl⟩
  unfold oGood oOk qOk
  rw [e, hp, he]
  simp
/-- A power. -/
theorem o_power {s : List UInt8} (hp : pOk s.length s = true) (he : qE s (oK s) = true) : oEnd s = qK2 s (oK s) + (qDs s (oK s)).length ∧ (oGood s ↔ qDs s (oK s) ≠ [] ∧ oEnd s = s.length) := by
  have e : oEnd s = qK2 s (oK s) + (qDs s (oK s)).length := by unfold oEnd qK; rw [hp, he]; rfl
  refine ⟨e, ?_⟩
  unfold oGood oOk qOk
  rw [hp, he]
  simp
/-- A power's text, from behind the letter on. -/
def pwT (s : List UInt8) (k : Nat) : List UInt8 := s.drop (k + 1)
end Go.Proofs.YtgciimjcdhallaaDoor
set_option linter.unusedVariables false
set_option linter.unusedSimpArgs false
namespace Go.Proofs.YtgciimjcdhallaaDoor
open Go.RowKit Go.Shelf
theorem eqI {a b : Nat} (h : a = b) : ((a : Int) == (b : Int)) = true := by rw [h]; simp
theorem neI {a : Nat} {b : Int} (h : ¬ (a : Int) = b) : ((a : Int) == b) = false := by simpa using h
theorem ng_of {s : List UInt8} (h0 : 0 < s.length) : pNg s = decide ((s.getD 0 0).toNat = 45) := by
  unfold pNg tk
  by_cases q : s.getD 0 0 = 45
  · rw [q]; simp [h0]
  · have q2 : ¬ (s.getD 0 0).toNat = 45 := fun e => q (UInt8.toNat_inj.1 e)
    rw [decide_eq_false q2]
    apply decide_eq_false
    rintro ⟨-, a⟩
    exact q (by simpa using a)
/-- A letter where digits should begin. -/
theorem wh_none {s : List UInt8} {K : Nat} (hk : pK1 s = K) (h : isD (s.getD K 0) = false) : pWh s = [] ∧ pK2 s = K := by
  have e : pWh s = [] := by
    unfold pWh
    rw [hk]
    unfold dg
    by_cases q : K < s.length
    · have : s.drop K = s.getD K 0 :: s.drop (K + 1) := by
        rw [List.drop_eq_getElem_cons q]
        simp [List.getD, List.getElem?_eq_getElem q]
      rw [this, List.takeWhile_cons_of_neg (by rw [h]; simp)]
      simp
    · rw [List.drop_of_length_le (by omega)]
      simp
  refine ⟨e, ?_⟩
  unfold pK2
  rw [e, hk]
  rfl
set_option maxRecDepth 100000 in
set_option maxHeartbeats 2000000 in
theorem rDecimal_in_true (s : List UInt8) (w : World) (hs : s.length ≤ 4096) (hng : pNg s = true) (hK : 1 < s.length) (c : Nat) (hc : (s.getD 1 0).toNat = c) (hin : c = 105 ∨ c = 110) :
    Calls Tryd.prog 7 #[.string ⟨s.toArray⟩] w fun e w' => (∃ V E K, e = .returned (.tuple #[.int .i64 V, .int .i64 E, .int .i64 K]) ∧ RoA s V E K) ∧ Keep w w' := by
  have s1 : (ByteArray.mk s.toArray).size = s.length := sz_mk s
  have hk1 : pK1 s = 1 := by unfold pK1; rw [hng]; rfl
  have hb : Hid (¬ oGood s ∧ oEnd s = 1) := by
    have hd : isD (s.getD 1 0) = false := by
      unfold isD
      apply decide_eq_false
      rw [hc]
      omega
    obtain ⟨e1, e2⟩ := wh_none hk1 hd
    obtain ⟨f1, f2⟩ := o_none e1
    exact ⟨f1, by rw [f2, e2]⟩
  have hix0 : ∀ wx, (Instr.index 9 (.string ⟨s.toArray⟩) (.int .i64 0)).run Tryd.prog wx = .ok (.int .u8 ((s.getD 0 0).toNat : Nat)) wx := fun wx => run_ix s 0 (by omega) wx
  obtain ⟨c0, hc0⟩ : ∃ c0, (s.getD 0 0).toNat = c0 := ⟨_, rfl⟩
  have hcb : ((c0 : Int) == 45) = true := by
    have h1 := ng_of (s := s) (by omega)
    rw [hng, hc0] at h1
    exact eqI (of_decide_eq_true h1.symm)
  have hix1 : ∀ wx, (Instr.index 9 (.string ⟨s.toArray⟩) (.int .i64 1)).run Tryd.prog wx = .ok (.int .u8 ((s.getD 1 0).toNat : Nat)) wx := fun wx => run_ix s 1 (by omega) wx
  rw [hc0] at hix0
  rw [hc] at hix1
  obtain ⟨L, hL⟩ : ∃ L, s.length = L := ⟨_, rfl⟩
  rw [hL] at s1 hs hK
  have hL0 : (0 : Int) < (L : Int) := by omega
  have hL1 : (1 : Int) < (L : Int) := by omega
  clear hng hk1 hc hc0 hL
  rcases hin with rfl | rfl
  all_goals
    go_enter Tryd.func7, Tryd.ntmps7
    go_wp2_with fail
    go_ret3
    exact ⟨⟨_, _, _, rfl, RoA.of_bad hb.out.1 (by rw [hb.out.2]; rfl)⟩, Keep.refl _⟩
set_option maxRecDepth 100000 in
set_option maxHeartbeats 2000000 in
theorem rDecimal_in_false (s : List UInt8) (w : World) (hs : s.length ≤ 4096) (hng : pNg s = false) (hK : 0 < s.length) (c : Nat) (hc : (s.getD 0 0).toNat = c) (hin : c = 105 ∨ c = 110) :
    Calls Tryd.prog 7 #[.string ⟨s.toArray⟩] w fun e w' => (∃ V E K, e = .returned (.tuple #[.int .i64 V, .int .i64 E, .int .i64 K]) ∧ RoA s V E K) ∧ Keep w w' := by
  have s1 : (ByteArray.mk s.toArray).size = s.length := sz_mk s
  have hk1 : pK1 s = 0 := by unfold pK1; rw [hng]; rfl
  have hb : Hid (¬ oGood s ∧ oEnd s = 0) := by
    have hd : isD (s.getD 0 0) = false := by
      unfold isD
      apply decide_eq_false
      rw [hc]
      omega
    obtain ⟨e1, e2⟩ := wh_none hk1 hd
    obtain ⟨f1, f2⟩ := o_none e1
    exact ⟨f1, by rw [f2, e2]⟩
  have hix0 : ∀ wx, (Instr.index 9 (.string ⟨s.toArray⟩) (.int .i64 0)).run Tryd.prog wx = .ok (.int .u8 ((s.getD 0 0).toNat : Nat)) wx := fun wx => run_ix s 0 (by omega) wx
  obtain ⟨c0, hc0⟩ : ∃ c0, (s.getD 0 0).toNat = c0 := ⟨_, rfl⟩
  have hcb : ((c0 : Int) == 45) = false := by
    have h1 := ng_of (s := s) (by omega)
    rw [hng, hc0] at h1
    exact neI (by have := of_decide_eq_false h1.symm; omega)
  obtain rfl : c = c0 := by rw [← hc, hc0]
  rw [hc0] at hix0
  obtain ⟨L, hL⟩ : ∃ L, s.length = L := ⟨_, rfl⟩
  rw [hL] at s1 hs hK
  have hL0 : (0 : Int) < (L : Int) := by omega
  have hL1 : (0 : Int) < (L : Int) := by omega
  clear hng hk1 hc hc0 hL
  rcases hin with rfl | rfl
  all_goals
    go_enter Tryd.func7, Tryd.ntmps7
    go_wp2_with fail
    go_ret3
    exact ⟨⟨_, _, _, rfl, RoA.of_bad hb.out.1 (by rw [hb.out.2]; rfl)⟩, Keep.refl _⟩
end Go.Proofs.YtgciimjcdhallaaDoor
