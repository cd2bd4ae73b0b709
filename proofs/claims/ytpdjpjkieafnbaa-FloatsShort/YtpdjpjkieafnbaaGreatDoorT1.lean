import Derived.Test.YtpdjpjkieafnbaaGreatDoorR14
import Derived.Laws.BytesArg
set_option linter.unusedVariables false
set_option linter.unusedSimpArgs false
namespace Go.Proofs.YtpdjpjkieafnbaaGreatDoor.Li
open Go.RowKit Lb Nr
/-- A decimal's text, put together: a sign, digits, a point and digits, a power. -/
def dtx (ng : Bool) (A B P : List UInt8) : List UInt8 := (if ng then [45] else []) ++ (A ++ ((if B = [] then [] else 46 :: B) ++ P))
def ptx (ns : Bool) (E : List UInt8) : List UInt8 := 101 :: ((if ns then [45] else []) ++ E)
theorem tw_end {p : UInt8 → Bool} {A R : List UInt8} (hA : ∀ b ∈ A, p b = true) (hR : R = [] ∨ ∃ c r, R = c :: r ∧ p c = false) : (A ++ R).takeWhile p = A := by
  induction A with
  | nil =>
    rcases hR with rfl | ⟨c, r, rfl, hc⟩
    · rfl
    · simp [hc]
  | cons a A ih =>
    rw [List.cons_append, List.takeWhile_cons_of_pos (hA a (by simp)), ih (fun b hb => hA b (by simp [hb]))]
theorem drop_len {α : Type} (A R : List α) : (A ++ R).drop A.length = R := by simp
theorem isD_not {c : UInt8} (h : c.toNat < 48 ∨ 57 < c.toNat) : isD c = false := by
  unfold isD
  exact decide_eq_false (by omega)
theorem isD_in {c : UInt8} (h : isD c = true) : 48 ≤ c.toNat ∧ c.toNat ≤ 57 := of_decide_eq_true h
theorem tk_at (X R ts : List UInt8) : tk (X ++ R) ts X.length = (match R with | [] => false | c :: _ => decide (c ∈ ts)) := by
  unfold tk
  cases R with
  | nil => simp
  | cons c r =>
    have e : (X ++ c :: r).getD X.length 0 = c := by simp [List.getD]
    rw [e]
    show _ = decide (c ∈ ts)
    by_cases h : c ∈ ts
    · rw [decide_eq_true h, decide_eq_true]
      exact ⟨by simp, h⟩
    · rw [decide_eq_false h, decide_eq_false]
      exact fun q => h q.2
/-- What a decimal's text says, its parts told. -/
theorem dtx_parts (ng : Bool) (A B : List UInt8) (P : List UInt8) (hA : allD A) (hA0 : A ≠ []) (hB : allD B) (hP : P = [] ∨ ∃ ns E, P = ptx ns E ∧ allD E ∧ E ≠ []) :
    cNg (dtx ng A B P) = ng ∧ cHx (dtx ng A B P) = false ∧ cWh (dtx ng A B P) = A ∧ cPt (dtx ng A B P) = B ∧ cGo (dtx ng A B P) = true ∧ (∃ X, X ++ P = dtx ng A B P ∧ X.length = cK4 (dtx ng A B P)) := by
  have hRhead : ∀ R, R = (if B = [] then [] else 46 :: B) ++ P → R = [] ∨ ∃ c r, R = c :: r ∧ (c = 46 ∨ c = 101) := by
    intro R hR
    by_cases hb : B = []
    · rw [if_pos hb, List.nil_append] at hR
      rcases hP with rfl | ⟨ns, E, rfl, -, -⟩
      · exact .inl hR
      · exact .inr ⟨101, _, hR, .inr rfl⟩
    · rw [if_neg hb] at hR
      exact .inr ⟨46, _, hR, .inl rfl⟩
  obtain ⟨a, A', rfl⟩ := List.exists_cons_of_ne_nil hA0
  have ha := isD_in (hA a (by simp))
  obtain ⟨R, hR⟩ : ∃ R, R = (if B = [] then [] else 46 :: B) ++ P := ⟨_, rfl⟩
  have hs : dtx ng (a :: A') B P = (if ng then [45] else []) ++ (a :: A' ++ R) := by unfold dtx; rw [← hR]
  have hn : cNg (dtx ng (a :: A') B P) = ng := by
    rw [hs]
    unfold cNg Lib.hasPrefix
    cases ng
    · have : a ≠ 45 := fun e => by rw [e] at ha; exact absurd ha.1 (by decide)
      simp only [Bool.false_eq_true, if_false, List.nil_append, List.cons_append, List.isPrefixOf]
      simp [Ne.symm this]
    · simp [List.isPrefixOf]
  have hk1 : (dtx ng (a :: A') B P).drop (cK1 (dtx ng (a :: A') B P)) = a :: A' ++ R := by
    unfold cK1
    rw [hn, hs]
    cases ng <;> simp
  have hx : cHx (dtx ng (a :: A') B P) = false := by
    unfold cHx
    rw [hk1]
    unfold Lib.hasPrefix
    have key : ∀ c r, (A' ++ R) = c :: r → c ≠ 120 := by
      intro c r h e
      subst e
      cases A' with
      | nil =>
        rw [List.nil_append] at h
        rcases hRhead R hR with h0 | ⟨c, r', h1, h2⟩
        · rw [h0] at h; cases h
        · rw [h1] at h
          injection h with h3
          rw [h3] at h2
          revert h2
          decide
      | cons b A'' =>
        have hb := isD_in (hA b (by simp))
        rw [List.cons_append] at h
        injection h with h3
        rw [h3] at hb
        revert hb
        decide
    rw [List.cons_append]
    cases hAR : A' ++ R with
    | nil => simp [List.isPrefixOf]
    | cons c r =>
      have := key c r hAR
      simp [List.isPrefixOf, Ne.symm this]
  have hk2 : cK2 (dtx ng (a :: A') B P) = cK1 (dtx ng (a :: A') B P) := by unfold cK2; rw [hx]; rfl
  have hw : cWh (dtx ng (a :: A') B P) = a :: A' := by
    unfold cWh
    rw [hk2, hk1, hx, isX_fun]
    apply tw_end hA
    rcases hRhead R hR with h | ⟨c, r, h1, h2⟩
    · exact .inl h
    · refine .inr ⟨c, r, h1, isD_not ?_⟩
      rcases h2 with rfl | rfl <;> decide
  have hK1 : cK1 (dtx ng (a :: A') B P) = (if ng then [45] else [] : List UInt8).length := by unfold cK1; rw [hn]; cases ng <;> rfl
  have hK3 : cK3 (dtx ng (a :: A') B P) = ((if ng then [45] else [] : List UInt8) ++ (a :: A')).length := by
    unfold cK3
    rw [hk2, hw, hK1, List.length_append]
  have hs2 : dtx ng (a :: A') B P = ((if ng then [45] else []) ++ (a :: A')) ++ R := by rw [hs, List.append_assoc]
  have hd3 : (dtx ng (a :: A') B P).drop (cK3 (dtx ng (a :: A') B P)) = R := by
    rw [hK3]
    conv => lhs; rw [hs2]
    exact drop_len _ _
  have hwne : (cWh (dtx ng (a :: A') B P) == []) = false := by rw [hw]; rfl
  by_cases hb : B = []
  · have hRP : R = P := by rw [hR, if_pos hb, List.nil_append]
    have hdot : cDot (dtx ng (a :: A') B P) = false := by
      unfold cDot
      rw [hd3, hRP]
      rcases hP with rfl | ⟨ns, E, rfl, -, -⟩
      · simp [Lib.hasPrefix, List.isPrefixOf]
      · simp [Lib.hasPrefix, List.isPrefixOf, ptx]
    refine ⟨hn, hx, hw, ?_, ?_, _, (hs2.trans (by rw [hRP])).symm, ?_⟩
    · unfold cPt; rw [hdot, hb]; rfl
    · unfold cGo; rw [hwne, hdot]; rfl
    · unfold cK4; rw [hdot]; exact hK3.symm
  · have hRB : R = 46 :: (B ++ P) := by rw [hR, if_neg hb, List.cons_append]
    have hdot : cDot (dtx ng (a :: A') B P) = true := by
      unfold cDot
      rw [hd3, hRB, hwne]
      simp [Lib.hasPrefix, List.isPrefixOf]
    have hpt : cPt (dtx ng (a :: A') B P) = B := by
      unfold cPt
      rw [hdot, if_pos rfl, hx, isX_fun, ← List.drop_drop, hd3, hRB]
      show (B ++ P).takeWhile isD = B
      apply tw_end hB
      rcases hP with rfl | ⟨ns, E, rfl, -, -⟩
      · exact .inl rfl
      · exact .inr ⟨101, _, rfl, by decide⟩
    refine ⟨hn, hx, hw, hpt, ?_, ((if ng then [45] else []) ++ (a :: A')) ++ (46 :: B), ?_, ?_⟩
    · unfold cGo
      rw [hwne, hdot, hpt]
      have : (B == []) = false := by rw [beq_eq_false_iff_ne]; exact hb
      rw [this]; rfl
    · rw [hs2, hRB]; simp
    · unfold cK4
      rw [hdot, if_pos rfl, hpt, hK3]
      simp
      omega
theorem tw_all' {E : List UInt8} (h : allD E) : E.takeWhile isD = E := by
  have := tw_end (p := isD) (A := E) (R := []) h (.inl rfl)
  rwa [List.append_nil] at this
theorem at_end {s X P : List UInt8} {k : Nat} (hX : X ++ P = s) (hk : X.length = k) (hP : P = []) : cpE false s k = false ∧ cpO false s k = true ∧ cpN false s k = false ∧ cpD false s k = [] := by
  have hE : cpE false s k = false := by
    unfold cpE
    rw [← hX, ← hk, tk_at, hP]
  refine ⟨hE, ?_, ?_, ?_⟩
  · unfold cpO
    rw [hE]
    have : k = s.length := by rw [← hX, hP, List.append_nil, hk]
    simp [this]
  · unfold cpN; rw [hE]; rfl
  · unfold cpD; rw [hE]; rfl
theorem at_pow {s X : List UInt8} {k : Nat} (ns : Bool) (E : List UInt8) (hX : X ++ ptx ns E = s) (hk : X.length = k) (hE : allD E) (hE0 : E ≠ []) : cpO false s k = true ∧ cpN false s k = ns ∧ cpD false s k = E := by
  obtain ⟨a, E', rfl⟩ := List.exists_cons_of_ne_nil hE0
  have ha := isD_in (hE a (by simp))
  have h1 : cpE false s k = true := by
    unfold cpE
    rw [← hX, ← hk, tk_at]
    show decide ((101 : UInt8) ∈ mkE false) = true
    decide
  have hs2 : s = (X ++ [101]) ++ ((if ns then [45] else []) ++ (a :: E')) := by rw [← hX]; unfold ptx; simp
  have hk2 : k + 1 = (X ++ [101]).length := by simp [hk]
  have h2 : cpS s k = ns := by
    unfold cpS
    rw [hs2, hk2, tk_at]
    cases ns
    · have : a ∉ ([43, 45] : List UInt8) := by
        intro q
        simp only [List.mem_cons, List.not_mem_nil, or_false] at q
        rcases q with q | q
        all_goals
          rw [q] at ha
          exact absurd ha.1 (by decide)
      exact decide_eq_false this
    · show decide ((45 : UInt8) ∈ ([43, 45] : List UInt8)) = true
      decide
  have h3 : tk s [45] (k + 1) = ns := by
    rw [hs2, hk2, tk_at]
    cases ns
    · have : a ∉ ([45] : List UInt8) := by
        intro q
        simp only [List.mem_cons, List.not_mem_nil, or_false] at q
        rw [q] at ha
        exact absurd ha.1 (by decide)
      exact decide_eq_false this
    · show decide ((45 : UInt8) ∈ ([45] : List UInt8)) = true
      decide
  have hJ : cpJ s k = k + 1 + (if ns then [45] else [] : List UInt8).length := by
    unfold cpJ
    rw [h2]
    cases ns <;> simp
  have hD : cpD false s k = a :: E' := by
    unfold cpD
    rw [if_pos h1, hJ]
    have : s.drop (k + 1 + (if ns then [45] else [] : List UInt8).length) = a :: E' := by
      rw [hs2, ← List.append_assoc, hk2, ← List.length_append]
      exact drop_len _ _
    rw [this]
    exact tw_all' hE
  have hK : cpK false s k = s.length := by
    unfold cpK
    rw [if_pos h1, hD, hJ, hk2]
    conv => rhs; rw [hs2]
    simp only [List.length_append]
    omega
  refine ⟨?_, ?_, hD⟩
  · unfold cpO
    rw [if_pos h1, hD, hK]
    simp
  · unfold cpN
    rw [h1, h3]
    rfl
/-- EVERY DECIMAL'S TEXT IS READ AS THE NUMBER NEAREST TO WHAT IT SAYS. -/
theorem Read_txt (ng : Bool) (A B P : List UInt8) (V : Int) (hA : allD A) (hA0 : A ≠ []) (hB : allD B) (hP : (P = [] ∧ V = 0) ∨ ∃ ns E, P = ptx ns E ∧ allD E ∧ E ≠ [] ∧ V = pwN ns E) (hl : (dtx ng A B P).length ≤ 4096) (w : World) :
    Calls Tryz.prog 12 #[.string ⟨(dtx ng A B P).toArray⟩] w fun e w' =>
      ∃ x : Nat, e = .returned (.tuple #[.float .f64 (x + sg ng), .int .i64 0, .int .i64 0]) ∧ NB (nat (A ++ B) * 10 ^ (V - (B.length : Int)).toNat) (10 ^ (-(V - (B.length : Int))).toNat) x ∧ Keep w w' := by
  have hP' : P = [] ∨ ∃ ns E, P = ptx ns E ∧ allD E ∧ E ≠ [] := by
    rcases hP with h | ⟨ns, E, h1, h2, h3, -⟩
    · exact .inl h.1
    · exact .inr ⟨ns, E, h1, h2, h3⟩
  obtain ⟨p1, p2, p3, p4, p5, X, hX, hk⟩ := dtx_parts ng A B P hA hA0 hB hP'
  obtain ⟨g1, g2, g3, g4⟩ := way_go p5
  have hall : cOk (dtx ng A B P) = true ∧ rdP (dtx ng A B P) = V - (B.length : Int) := by
    rw [p2] at g1 g2 g4
    unfold rdP
    rw [g1, g2, g4, p4]
    rcases hP with ⟨h1, h2⟩ | ⟨ns, E, h1, h2, h3, h4⟩
    · obtain ⟨q1, q2, q3, q4⟩ := at_end hX hk h1
      refine ⟨q2, ?_⟩
      rw [q3, q4, h2]
      have : pwN false [] = 0 := by decide
      rw [this]
    · subst h1
      obtain ⟨q1, q2, q3⟩ := at_pow ns E hX hk h2 h3
      exact ⟨q1, by rw [q2, q3, h4]⟩
  have hN : rdN (dtx ng A B P) = nat (A ++ B) := by unfold rdN; rw [p3, p4]
  have h := Read_dec (dtx ng A B P) w hl hall.1 p2
  rw [p1, hN, hall.2] at h
  exact h
end Go.Proofs.YtpdjpjkieafnbaaGreatDoor.Li
set_option linter.unusedVariables false
set_option linter.unusedSimpArgs false
namespace Go.Proofs.YtpdjpjkieafnbaaGreatDoor.Li
open Go.RowKit Lb
theorem conv1 (w : World) (y : Nat) (hy : y < 256) : (convert 61 9 (.slice (some ⟨w.heap.size, 0, none⟩) 1 1)).run Tryz.prog (w.alloc (.cells #[.int .u8 (y : Int)] 5)) = .ok (.string ⟨#[UInt8.ofNat y]⟩) (w.alloc (.cells #[.int .u8 (y : Int)] 5)) := by
  have := run_convert_bytes_arg (P := Tryz.prog) (w.alloc (.cells #[.int .u8 (y : Int)] 5)) 61 5 Tryz.underlying61 Tryz.underlying5 w.heap.size 0 1 1 [(y : Int)] (by simp) (fun i hi => by
    obtain rfl : i = 0 := by simp at hi; omega
    rw [cell_of_row _ _ _ _ 5 (0, 0) (heap_alloc_new w _)]
    rfl) 9 Tryz.underlying9
  rw [this]
  simp [strOfNums]
theorem one_cat (c : UInt8) (E : List UInt8) : ByteArray.mk #[c] ++ ByteArray.mk E.toArray = ⟨(c :: E).toArray⟩ := catB [c] E
theorem nat_one (c : UInt8) (E : List UInt8) : nat (c :: E) = dv c * 10 ^ E.length + nat E := nat_cons c E
theorem dig_ok {d : Nat} (h : d < 10) : isD (UInt8.ofNat (48 + d)) = true ∧ dv (UInt8.ofNat (48 + d)) = d := by
  have e : (UInt8.ofNat (48 + d)).toNat = 48 + d := by simp; omega
  unfold isD dv
  rw [e]
  exact ⟨decide_eq_true (by omega), by omega⟩
theorem dgo_step {n m : Nat} {E : List UInt8} (h : nat E + m * 10 ^ E.length = n) : nat (UInt8.ofNat (48 + m % 10) :: E) + m / 10 * 10 ^ (UInt8.ofNat (48 + m % 10) :: E).length = n := by
  rw [nat_one, (dig_ok (Nat.mod_lt m (by omega))).2, List.length_cons, Nat.pow_succ, ← h]
  have e := Nat.div_add_mod m 10
  generalize 10 ^ E.length = Z at *
  generalize m / 10 = q at *
  generalize m % 10 = r at *
  subst e
  have : q * (Z * 10) = 10 * q * Z := by rw [Nat.mul_comm Z 10, ← Nat.mul_assoc, Nat.mul_comm q 10]
  rw [this, Nat.add_mul]
  omega
set_option maxRecDepth 100000 in
set_option maxHeartbeats 1000000 in
theorem digitsOf_any (n : Nat) (w : World) (hn : n < 1000000000000000000) :
    Calls Tryz.prog 73 #[.int .i64 (n : Int)] w fun e w' => ∃ E, e = .returned (.string ⟨E.toArray⟩) ∧ allD E ∧ E ≠ [] ∧ nat E = n ∧ E.length ≤ 19 ∧ Keep w w' := by
  go_enter Tryz.func73, Tryz.ntmps73
  go_wp2_with fail
  go_loopg [0, 3] (n + 1) (fun g v0 v3 wr => ∃ (m : Nat) (E : List UInt8), m + (if E.isEmpty then 1 else 0) = g ∧ v0 = .int .i64 (m : Int) ∧ v3 = .string ⟨E.toArray⟩ ∧ Hid (allD E) ∧ Hid (nat E + m * 10 ^ E.length = n) ∧ Hid (E = [] ∨ 0 < m) ∧ m < 1000000000000000000 ∧ Keep w wr)
  case atStart => exact ⟨n, [], rfl, rfl, rfl, by intro b hb; simp at hb, by unfold Hid; simp [nat], .inl rfl, hn, Keep.refl _⟩
  case round =>
    obtain ⟨m, E, hg, rfl, rfl, hE, hS, hz, hm, kr⟩ := hrel
    have hl : E.length ≤ 17 := by
      rcases hz.out with h | h
      · rw [h]; simp
      · have h1 := hS.out
        have h2 : 1 * 10 ^ E.length ≤ m * 10 ^ E.length := Nat.mul_le_mul_right _ h
        have h3 : 10 ^ E.length < 10 ^ 18 := by show _ < 1000000000000000000; omega
        have := (Nat.pow_lt_pow_iff_right (show 1 < 10 by omega)).1 h3
        omega
    have hcv := conv1 wr (48 + m % 10) (by omega)
    have hcat := one_cat (UInt8.ofNat (48 + m % 10)) E
    have hstep : Hid (nat (UInt8.ofNat (48 + m % 10) :: E) + m / 10 * 10 ^ (UInt8.ofNat (48 + m % 10) :: E).length = n) := dgo_step hS.out
    have hall : Hid (allD (UInt8.ofNat (48 + m % 10) :: E)) := by
      intro b hb
      rcases List.mem_cons.1 hb with rfl | h
      · exact (dig_ok (Nat.mod_lt m (by omega))).1
      · exact hE.out b h
    have hmod : Int.tmod (m : Int) 10 = ((m % 10 : Nat) : Int) := by rw [Int.ofNat_tmod]; rfl
    have hdiv : Int.tdiv (m : Int) 10 = ((m / 10 : Nat) : Int) := by rw [Int.ofNat_tdiv]; rfl
    have hwr : IntKind.u8.wrap (48 + ((m % 10 : Nat) : Int)) = ((48 + m % 10 : Nat) : Int) := by
      have : m % 10 < 10 := Nat.mod_lt _ (by omega)
      generalize m % 10 = d at *
      obtain rfl | rfl | rfl | rfl | rfl | rfl | rfl | rfl | rfl | rfl : d = 0 ∨ d = 1 ∨ d = 2 ∨ d = 3 ∨ d = 4 ∨ d = 5 ∨ d = 6 ∨ d = 7 ∨ d = 8 ∨ d = 9 := by omega
      all_goals rfl
    have hml : m % 10 < 10 := Nat.mod_lt _ (by omega)
    have hdl : m / 10 ≤ m := Nat.div_le_self _ _
    have hsz : (ByteArray.mk E.toArray).size = E.length := sz_mk E
    obtain ⟨c, hc⟩ : ∃ c, UInt8.ofNat (48 + m % 10) = c := ⟨_, rfl⟩
    obtain ⟨r, hr⟩ : ∃ r, m % 10 = r := ⟨_, rfl⟩
    obtain ⟨q, hq⟩ : ∃ q, m / 10 = q := ⟨_, rfl⟩
    have Hmq : Hid (q = 0 ∨ q < m) := by unfold Hid; omega
    rw [hc] at hcv hcat hstep hall
    rw [hr] at hcv hmod hwr hml
    rw [hq] at hdiv hstep hdl
    have hcv2 : (convert 61 9 (.slice (some ⟨wr.heap.size, 0, none⟩) 1 1)).run Tryz.prog (wr.alloc (.cells #[.int .u8 (48 + (r : Int))] 5)) = .ok (.string ⟨#[c]⟩) (wr.alloc (.cells #[.int .u8 (48 + (r : Int))] 5)) := hcv
    have Hl : Hid (E.length ≤ 17) := hl
    have Hg : Hid (m + (if E.isEmpty then 1 else 0) = gk) := hg
    clear hc hr hq hcv hg
    by_cases h0 : q = 0
    · have e0 : ((q : Int) == 0) = true := by rw [h0]; rfl
      have H0 : Hid (q = 0) := h0
      clear h0
      go_wp2_with fail
      go_ret
      refine ⟨c :: E, rfl, hall.out, by simp, ?_, by have := Hl.out; simp; omega, kr.alloc _⟩
      have := hstep.out
      rw [H0.out, Nat.zero_mul, Nat.add_zero] at this
      exact this
    · have e0 : ((q : Int) == 0) = false := by rw [beq_eq_false_iff_ne]; omega
      have H0 : Hid (0 < q) := Nat.pos_of_ne_zero h0
      clear h0
      go_wp2_with fail
      go_roundg (q)
      case measure =>
        have h1 := Hmq.out
        have h2 := H0.out
        have h3 := Hg.out
        split at h3 <;> omega
      case rel => exact ⟨q, c :: E, by simp, rfl, rfl, hall, hstep, .inr H0.out, by omega, kr.alloc _⟩
end Go.Proofs.YtpdjpjkieafnbaaGreatDoor.Li
set_option linter.unusedVariables false
set_option linter.unusedSimpArgs false
namespace Go.Proofs.YtpdjpjkieafnbaaGreatDoor.Li
open Go.RowKit Lb
set_option maxRecDepth 100000 in
set_option maxHeartbeats 400000 in
theorem signT_any (z : Int) (w : World) (h1 : -100000000 < z) (h2 : z < 100000000) :
    Calls Tryz.prog 35 #[.int .i64 z] w fun e w' => ∃ E, e = .returned (.string ⟨((if z < 0 then [45] else []) ++ E).toArray⟩) ∧ allD E ∧ E ≠ [] ∧ nat E = z.natAbs ∧ E.length ≤ 19 ∧ Keep w w' := by
  by_cases h : z < 0
  · obtain ⟨n, rfl⟩ : ∃ n : Nat, z = -(n : Int) := ⟨z.natAbs, by omega⟩
    have hd := fun wx => digitsOf_any n wx (by omega)
    have d0 : decide (-(n : Int) < 0) = true := decide_eq_true h
    have d1 : decide (0 < n) = true := decide_eq_true (by omega)
    have p1 : 0 < n := by omega
    have hw : wrap64 (-(-(n : Int))) = (n : Int) := by rw [Int.neg_neg]; exact IntWalk.wrap64_in _ (by omega)
    have hw2 : wrap64 (n : Int) = (n : Int) := IntWalk.wrap64_in _ (by omega)
    have HP : Hid (∀ E : List UInt8, (if -(n : Int) < 0 then [45] else []) ++ E = 45 :: E) := by
      intro E
      rw [if_pos h]; rfl
    have hna : Hid ((-(n : Int)).natAbs = n) := by unfold Hid; omega
    clear h h1 h2
    go_enter Tryz.func35, Tryz.ntmps35
    go_wp2_with fail
    refine (hd _).mono ?_
    rintro e w2 ⟨E, rfl, e1, e2, e3, e4, k2⟩
    have hcat := one_cat 45 E
    have hsz : (ByteArray.mk E.toArray).size = E.length := sz_mk E
    have HE : Hid (allD E ∧ E ≠ [] ∧ nat E = n) := ⟨e1, e2, e3⟩
    clear e1 e2 e3
    go_wp2_with fail
    go_ret
    exact ⟨E, rfl, HE.out.1, HE.out.2.1, HE.out.2.2, e4, k2⟩
  · obtain ⟨n, rfl⟩ : ∃ n : Nat, z = (n : Int) := ⟨z.natAbs, by omega⟩
    have hd := fun wx => digitsOf_any n wx (by omega)
    have d0 : decide ((n : Int) < 0) = false := decide_eq_false h
    have HP : Hid (∀ E : List UInt8, (if (n : Int) < 0 then [45] else []) ++ E = E) := by
      intro E
      rw [if_neg h]; rfl
    have hna : Hid (((n : Int)).natAbs = n) := by unfold Hid; omega
    clear h h1 h2
    go_enter Tryz.func35, Tryz.ntmps35
    go_wp2_with fail
    refine (hd _).mono ?_
    rintro e w2 ⟨E, rfl, e1, e2, e3, e4, k2⟩
    have HE : Hid (allD E ∧ E ≠ [] ∧ nat E = n) := ⟨e1, e2, e3⟩
    clear e1 e2 e3
    go_wp2_with fail
    go_ret
    exact ⟨E, rfl, HE.out.1, HE.out.2.1, HE.out.2.2, e4, k2⟩
end Go.Proofs.YtpdjpjkieafnbaaGreatDoor.Li
set_option linter.unusedVariables false
set_option linter.unusedSimpArgs false
namespace Go.Proofs.YtpdjpjkieafnbaaGreatDoor.Li
open Go.RowKit Lb
/-- Bytes that can be read. -/
def Rd5 (w : World) (a : Option Addr) (l : List UInt8) : Prop := ∀ j, j < l.length → ∃ b o, a = some ⟨b, o, none⟩ ∧ w.cell? ⟨b, o + j, none⟩ = some (.int .u8 ((l.getD j 0).toNat : Nat))
theorem Rd5.keep {w w' : World} {a : Option Addr} {l : List UInt8} (h : Rd5 w a l) (k : Keep w w') : Rd5 w' a l := by
  intro j hj
  obtain ⟨b, o, e, hc⟩ := h j hj
  exact ⟨b, o, e, k.cell hc⟩
/-- A byte's digit; the digits with a point behind so many of them. -/
def dch (b : UInt8) : UInt8 := UInt8.ofNat (48 + b.toNat % 10)
def plD (D : List UInt8) (p : Int) (i : Nat) : List UInt8 := if 0 < p ∧ p < (i : Int) then D.take p.toNat ++ 46 :: ((D.take i).drop p.toNat) else D.take i
theorem take_snoc8 (D : List UInt8) (i : Nat) (h : i < D.length) : D.take (i + 1) = D.take i ++ [D.getD i 0] := by
  rw [List.take_add_one]
  simp [List.getD, h]
theorem pl_step (D : List UInt8) (p : Int) (i : Nat) (h : i < D.length) : plD D p (i + 1) = (if (i : Int) = p ∧ 0 < i then plD D p i ++ [46] else plD D p i) ++ [D.getD i 0] := by
  unfold plD
  by_cases c1 : (i : Int) = p ∧ 0 < i
  · obtain ⟨c2, c3⟩ := c1
    subst c2
    rw [if_pos ⟨by omega, by omega⟩, if_pos ⟨rfl, c3⟩, if_neg (by omega), take_snoc8 D i h]
    simp only [Int.toNat_natCast]
    rw [List.drop_append_of_le_length (by rw [List.length_take]; omega), List.drop_eq_nil_of_le (by rw [List.length_take]; omega)]
    simp
  · rw [if_neg c1]
    by_cases c2 : 0 < p ∧ p < (i : Int)
    · rw [if_pos ⟨c2.1, by omega⟩, if_pos c2, take_snoc8 D i h, List.drop_append_of_le_length (by rw [List.length_take]; omega)]
      simp
    · rw [if_neg (by omega), if_neg c2, take_snoc8 D i h]
theorem cat_one (X : List UInt8) (c : UInt8) : ByteArray.mk X.toArray ++ ByteArray.mk #[c] = ⟨(X ++ [c]).toArray⟩ := catB X [c]
theorem pl_len (D : List UInt8) (p : Int) (i : Nat) : (plD D p i).length ≤ i + 1 := by
  unfold plD
  split
  · simp only [List.length_append, List.length_cons, List.length_take, List.length_drop]
    omega
  · rw [List.length_take]
    omega
theorem dch_all (l : List UInt8) : allD (l.map dch) := by
  intro b hb
  obtain ⟨c, -, rfl⟩ := List.mem_map.1 hb
  exact (dig_ok (Nat.mod_lt _ (by omega))).1
/-- The text of the digits: '0' where there are none. -/
def plT (l : List UInt8) (p : Int) : List UInt8 := if l = [] then [48] else plD (l.map dch) p l.length
set_option maxRecDepth 100000 in
set_option maxHeartbeats 2000000 in
theorem plain_any (a : Option Addr) (c : Nat) (l : List UInt8) (p : Int) (w : World) (hl : l.length ≤ 4096) (hr : Rd5 w a l) :
    Calls Tryz.prog 36 #[.slice a l.length c, .int .i64 p, .bool false, .string ⟨#[]⟩] w fun e w' => e = .returned (.string ⟨(plT l p).toArray⟩) ∧ Keep w w' := by
  go_enter Tryz.func36, Tryz.ntmps36
  go_wp2_with fail
  go_loopg [9, 10] (l.length) (fun g v9 v10 wr => ∃ i : Nat, i + g = l.length ∧ v9 = .string ⟨(plD (l.map dch) p i).toArray⟩ ∧ v10 = .int .i64 (i : Int) ∧ Keep w wr)
  case atStart => exact ⟨0, by omega, by unfold plD; rw [if_neg (by omega)]; rfl, rfl, Keep.refl _⟩
  case round =>
    obtain ⟨i, hig, rfl, rfl, kr⟩ := hrel
    by_cases hil : i < l.length
    · have hlt : (i : Int) < (l.length : Int) := by omega
      obtain ⟨b, o, rfl, hc⟩ := (hr.keep kr) i hil
      have hstep := pl_step (l.map dch) p i (by rw [List.length_map]; exact hil)
      have hget : (l.map dch).getD i 0 = dch (l.getD i 0) := by simp [List.getD, hil]
      rw [hget] at hstep
      have hX := pl_len (l.map dch) p i
      have hdc : dch (l.getD i 0) = UInt8.ofNat (48 + (l.getD i 0).toNat % 10) := rfl
      rw [hdc] at hstep
      clear hdc
      have hb8 := (l.getD i 0).toNat_lt
      obtain ⟨x, hx⟩ : ∃ x, (l.getD i 0).toNat = x := ⟨_, rfl⟩
      rw [hx] at hc hstep hb8
      obtain ⟨X, hXe⟩ : ∃ X, plD (l.map dch) p i = X := ⟨_, rfl⟩
      rw [hXe] at hstep hX
      rw [hXe]
      have hmod : Int.tmod (x : Int) 10 = ((x % 10 : Nat) : Int) := by rw [Int.ofNat_tmod]; rfl
      have hml : x % 10 < 10 := Nat.mod_lt _ (by omega)
      obtain ⟨r, hrr⟩ : ∃ r, x % 10 = r := ⟨_, rfl⟩
      rw [hrr] at hmod hml hstep
      obtain ⟨cc, hcc⟩ : ∃ cc, UInt8.ofNat (48 + r) = cc := ⟨_, rfl⟩
      have hcv : ∀ wx : World, (convert 61 9 (.slice (some ⟨wx.heap.size, 0, none⟩) 1 1)).run Tryz.prog (wx.alloc (.cells #[.int .u8 (48 + (r : Int))] 5)) = .ok (.string ⟨#[cc]⟩) (wx.alloc (.cells #[.int .u8 (48 + (r : Int))] 5)) := fun wx => by
        rw [← hcc]
        exact conv1 wx (48 + r) (by omega)
      have hwr : IntKind.u8.wrap (48 + (r : Int)) = 48 + (r : Int) := by
        obtain rfl | rfl | rfl | rfl | rfl | rfl | rfl | rfl | rfl | rfl : r = 0 ∨ r = 1 ∨ r = 2 ∨ r = 3 ∨ r = 4 ∨ r = 5 ∨ r = 6 ∨ r = 7 ∨ r = 8 ∨ r = 9 := by omega
        all_goals rfl
      rw [hcc] at hstep
      have hsz : (ByteArray.mk X.toArray).size = X.length := sz_mk X
      have Hst : Hid (plD (l.map dch) p (i + 1) = (if (i : Int) = p ∧ 0 < i then X ++ [46] else X) ++ [cc]) := hstep
      have hXl : X.length ≤ 4097 := by omega
      clear hx hXe hrr hcc hstep hget hX hil
      by_cases hp : (i : Int) = p ∧ 0 < i
      · obtain ⟨hp1, hp2⟩ := hp
        have e1 : ((i : Int) == p) = true := by rw [beq_iff_eq]; exact hp1
        have e2 : decide ((0 : Int) < (i : Int)) = true := decide_eq_true (by omega)
        have e2' : decide (0 < i) = true := decide_eq_true hp2
        have HS2 : Hid (plD (l.map dch) p (i + 1) = (X ++ [46]) ++ [cc]) := by unfold Hid; rw [Hst.out, if_pos ⟨hp1, hp2⟩]
        have hcat1 := cat_one X 46
        have hcat2 := cat_one (X ++ [46]) cc
        have hsz2 : (ByteArray.mk (X ++ [46]).toArray).size = X.length + 1 := by rw [sz_mk]; simp
        obtain ⟨Y, hY⟩ : ∃ Y, X ++ [46] = Y := ⟨_, rfl⟩
        rw [hY] at hcat1 hcat2 hsz2 HS2
        have hYl : Y.length ≤ 4098 := by rw [← hY]; simp; omega
        clear hp1 hp2 hY Hst
        go_wp2_with fail
        go_roundg (gk - 1)
        case measure => omega
        case rel => exact ⟨i + 1, by omega, by rw [HS2.out], rfl, kr.alloc _⟩
      · have HS2 : Hid (plD (l.map dch) p (i + 1) = X ++ [cc]) := by unfold Hid; rw [Hst.out, if_neg hp]
        have hcat2 := cat_one X cc
        clear Hst
        by_cases h0 : (i : Int) = p
        · have e1 : ((i : Int) == p) = true := by rw [beq_iff_eq]; exact h0
          have hi0 : i = 0 := by omega
          have e2 : decide ((0 : Int) < (i : Int)) = false := decide_eq_false (by omega)
          have e2' : decide (0 < i) = false := decide_eq_false (by omega)
          clear hp h0 hi0
          go_wp2_with fail
          go_roundg (gk - 1)
          case measure => omega
          case rel => exact ⟨i + 1, by omega, by rw [HS2.out], rfl, kr.alloc _⟩
        · have e1 : ((i : Int) == p) = false := by rw [beq_eq_false_iff_ne]; exact h0
          clear hp h0
          go_wp2_with fail
          go_roundg (gk - 1)
          case measure => omega
          case rel => exact ⟨i + 1, by omega, by rw [HS2.out], rfl, kr.alloc _⟩
    · have hlt : ¬ (i : Int) < (l.length : Int) := by omega
      have hil2 : i = l.length := by omega
      by_cases hn : l = []
      · have hX : plD (l.map dch) p i = [] := by rw [hil2, hn]; unfold plD; rw [if_neg (by simp only [List.length_nil]; omega)]; rfl
        have HT : Hid (plT l p = [48]) := by unfold Hid plT; rw [if_pos hn]
        rw [hX]
        clear hX hn hil hil2
        have hcat : ByteArray.mk #[48] ++ ByteArray.mk #[] = ⟨#[48]⟩ := catB [48] []
        go_wp2_with fail
        go_ret
        exact ⟨by rw [HT.out]; rfl, kr⟩
      · have HT : Hid (plT l p = plD (l.map dch) p i) := by unfold Hid plT; rw [if_neg hn, hil2]
        have hne : plD (l.map dch) p i ≠ [] := by
          intro h
          have h1 : 0 < l.length := List.length_pos_iff.2 hn
          have h2 : (plD (l.map dch) p i).length = 0 := by rw [h]; rfl
          unfold plD at h2
          split at h2
          · simp only [List.length_append, List.length_cons] at h2
            omega
          · rw [List.length_take, List.length_map] at h2
            omega
        have hXl := pl_len (l.map dch) p i
        obtain ⟨X, hX⟩ : ∃ X, plD (l.map dch) p i = X := ⟨_, rfl⟩
        rw [hX] at HT hne hXl
        rw [hX]
        clear hX hn hil
        cases X with
        | nil => exact absurd rfl hne
        | cons x X =>
        have hsz : (ByteArray.mk (x :: X).toArray).size = X.length + 1 := sz_mk _
        have hXl2 : X.length + 1 ≤ 4097 := by have : (x :: X).length = X.length + 1 := rfl; omega
        clear hXl hne
        have hcat : ByteArray.mk (x :: X).toArray ++ ⟨#[]⟩ = ⟨(x :: X).toArray⟩ := by simpa using catB (x :: X) []
        have hbe : (ByteArray.mk (x :: X).toArray == ⟨#[]⟩) = false := rfl
        go_wp2_with fail
        go_ret
        exact ⟨by rw [HT.out]; rfl, kr⟩
end Go.Proofs.YtpdjpjkieafnbaaGreatDoor.Li
set_option linter.unusedVariables false
set_option linter.unusedSimpArgs false
namespace Go.Proofs.YtpdjpjkieafnbaaGreatDoor.Li
open Go.RowKit Lb
set_option maxRecDepth 100000 in
set_option maxHeartbeats 140737488351232 in
/-- The text of the digits, with a sign and a tail. -/
theorem plainE_any (a : Option Addr) (c : Nat) (l : List UInt8) (p : Int) (ng : Bool) (tl : List UInt8) (w : World) (hl : l.length ≤ 140737488351232) (htl : tl.length ≤ 100) (hr : Rd5 w a l) :
    Calls Tryz.prog 36 #[.slice a l.length c, .int .i64 p, .bool ng, .string ⟨tl.toArray⟩] w fun e w' => e = .returned (.string ⟨((if ng then [45] else []) ++ (plT l p ++ tl)).toArray⟩) ∧ Keep w w' := by
  go_enter Tryz.func36, Tryz.ntmps36
  go_wp2_with fail
  go_loopg [9, 10] (l.length) (fun g v9 v10 wr => ∃ i : Nat, i + g = l.length ∧ v9 = .string ⟨(plD (l.map dch) p i).toArray⟩ ∧ v10 = .int .i64 (i : Int) ∧ Keep w wr)
  case atStart => exact ⟨0, by omega, by unfold plD; rw [if_neg (by omega)]; rfl, rfl, Keep.refl _⟩
  case round =>
    obtain ⟨i, hig, rfl, rfl, kr⟩ := hrel
    by_cases hil : i < l.length
    · have hlt : (i : Int) < (l.length : Int) := by omega
      obtain ⟨b, o, rfl, hc⟩ := (hr.keep kr) i hil
      have hstep := pl_step (l.map dch) p i (by rw [List.length_map]; exact hil)
      have hget : (l.map dch).getD i 0 = dch (l.getD i 0) := by simp [List.getD, hil]
      rw [hget] at hstep
      have hX := pl_len (l.map dch) p i
      have hdc : dch (l.getD i 0) = UInt8.ofNat (48 + (l.getD i 0).toNat % 10) := rfl
      rw [hdc] at hstep
      clear hdc
      have hb8 := (l.getD i 0).toNat_lt
      obtain ⟨x, hx⟩ : ∃ x, (l.getD i 0).toNat = x := ⟨_, rfl⟩
      rw [hx] at hc hstep hb8
      obtain ⟨X, hXe⟩ : ∃ X, plD (l.map dch) p i = X := ⟨_, rfl⟩
      rw [hXe] at hstep hX
      rw [hXe]
      have hmod : Int.tmod (x : Int) 10 = ((x % 10 : Nat) : Int) := by rw [Int.ofNat_tmod]; rfl
      have hml : x % 10 < 10 := Nat.mod_lt _ (by omega)
      obtain ⟨r, hrr⟩ : ∃ r, x % 10 = r := ⟨_, rfl⟩
      rw [hrr] at hmod hml hstep
      obtain ⟨cc, hcc⟩ : ∃ cc, UInt8.ofNat (48 + r) = cc := ⟨_, rfl⟩
      have hcv : ∀ wx : World, (convert 61 9 (.slice (some ⟨wx.heap.size, 0, none⟩) 1 1)).run Tryz.prog (wx.alloc (.cells #[.int .u8 (48 + (r : Int))] 5)) = .ok (.string ⟨#[cc]⟩) (wx.alloc (.cells #[.int .u8 (48 + (r : Int))] 5)) := fun wx => by
        rw [← hcc]
        exact conv1 wx (48 + r) (by omega)
      have hwr : IntKind.u8.wrap (48 + (r : Int)) = 48 + (r : Int) := by
        obtain rfl | rfl | rfl | rfl | rfl | rfl | rfl | rfl | rfl | rfl : r = 0 ∨ r = 1 ∨ r = 2 ∨ r = 3 ∨ r = 4 ∨ r = 5 ∨ r = 6 ∨ r = 7 ∨ r = 8 ∨ r = 9 := by omega
        all_goals rfl
      rw [hcc] at hstep
      have hsz : (ByteArray.mk X.toArray).size = X.length := sz_mk X
      have Hst : Hid (plD (l.map dch) p (i + 1) = (if (i : Int) = p ∧ 0 < i then X ++ [46] else X) ++ [cc]) := hstep
      have hXl : X.length ≤ 140737488351233 := by omega
      clear hx hXe hrr hcc hstep hget hX hil
      by_cases hp : (i : Int) = p ∧ 0 < i
      · obtain ⟨hp1, hp2⟩ := hp
        have e1 : ((i : Int) == p) = true := by rw [beq_iff_eq]; exact hp1
        have e2 : decide ((0 : Int) < (i : Int)) = true := decide_eq_true (by omega)
        have e2' : decide (0 < i) = true := decide_eq_true hp2
        have HS2 : Hid (plD (l.map dch) p (i + 1) = (X ++ [46]) ++ [cc]) := by unfold Hid; rw [Hst.out, if_pos ⟨hp1, hp2⟩]
        have hcat1 := cat_one X 46
        have hcat2 := cat_one (X ++ [46]) cc
        have hsz2 : (ByteArray.mk (X ++ [46]).toArray).size = X.length + 1 := by rw [sz_mk]; simp
        obtain ⟨Y, hY⟩ : ∃ Y, X ++ [46] = Y := ⟨_, rfl⟩
        rw [hY] at hcat1 hcat2 hsz2 HS2
        have hYl : Y.length ≤ 140737488351234 := by rw [← hY]; simp; omega
        clear hp1 hp2 hY Hst
        go_wp2_with fail
        go_roundg (gk - 1)
        case measure => omega
        case rel => exact ⟨i + 1, by omega, by rw [HS2.out], rfl, kr.alloc _⟩
      · have HS2 : Hid (plD (l.map dch) p (i + 1) = X ++ [cc]) := by unfold Hid; rw [Hst.out, if_neg hp]
        have hcat2 := cat_one X cc
        clear Hst
        by_cases h0 : (i : Int) = p
        · have e1 : ((i : Int) == p) = true := by rw [beq_iff_eq]; exact h0
          have hi0 : i = 0 := by omega
          have e2 : decide ((0 : Int) < (i : Int)) = false := decide_eq_false (by omega)
          have e2' : decide (0 < i) = false := decide_eq_false (by omega)
          clear hp h0 hi0
          go_wp2_with fail
          go_roundg (gk - 1)
          case measure => omega
          case rel => exact ⟨i + 1, by omega, by rw [HS2.out], rfl, kr.alloc _⟩
        · have e1 : ((i : Int) == p) = false := by rw [beq_eq_false_iff_ne]; exact h0
          clear hp h0
          go_wp2_with fail
          go_roundg (gk - 1)
          case measure => omega
          case rel => exact ⟨i + 1, by omega, by rw [HS2.out], rfl, kr.alloc _⟩
    · have hlt : ¬ (i : Int) < (l.length : Int) := by omega
      have hil2 : i = l.length := by omega
      have hszt : (ByteArray.mk tl.toArray).size = tl.length := sz_mk tl
      by_cases hn : l = []
      · have hX : plD (l.map dch) p i = [] := by rw [hil2, hn]; unfold plD; rw [if_neg (by simp only [List.length_nil]; omega)]; rfl
        have HT : Hid (plT l p = [48]) := by unfold Hid plT; rw [if_pos hn]
        rw [hX]
        clear hX hn hil hil2
        cases ng
        · have hcat : ByteArray.mk #[48] ++ ByteArray.mk tl.toArray = ⟨(48 :: tl).toArray⟩ := catB [48] tl
          go_wp2_with fail
          go_ret
          exact ⟨by rw [HT.out]; rfl, kr⟩
        · have hcat : ByteArray.mk #[45, 48] ++ ByteArray.mk tl.toArray = ⟨(45 :: 48 :: tl).toArray⟩ := catB [45, 48] tl
          have hcat0 : ByteArray.mk #[45] ++ ByteArray.mk #[48] = ⟨#[45, 48]⟩ := rfl
          go_wp2_with fail
          go_ret
          exact ⟨by rw [HT.out]; rfl, kr⟩
      · have HT : Hid (plT l p = plD (l.map dch) p i) := by unfold Hid plT; rw [if_neg hn, hil2]
        have hne : plD (l.map dch) p i ≠ [] := by
          intro h
          have h1 : 0 < l.length := List.length_pos_iff.2 hn
          have h2 : (plD (l.map dch) p i).length = 0 := by rw [h]; rfl
          unfold plD at h2
          split at h2
          · simp only [List.length_append, List.length_cons] at h2
            omega
          · rw [List.length_take, List.length_map] at h2
            omega
        have hXl := pl_len (l.map dch) p i
        obtain ⟨X, hX⟩ : ∃ X, plD (l.map dch) p i = X := ⟨_, rfl⟩
        rw [hX] at HT hne hXl
        rw [hX]
        clear hX hn hil
        cases X with
        | nil => exact absurd rfl hne
        | cons x X =>
        have hsz : (ByteArray.mk (x :: X).toArray).size = X.length + 1 := sz_mk _
        have hXl2 : X.length + 1 ≤ 140737488351233 := by have : (x :: X).length = X.length + 1 := rfl; omega
        clear hXl hne
        have hbe : (ByteArray.mk (x :: X).toArray == ⟨#[]⟩) = false := rfl
        cases ng
        · have hcat := catB (x :: X) tl
          go_wp2_with fail
          go_ret
          exact ⟨by rw [HT.out]; rfl, kr⟩
        · have hcat0 := catB [45] (x :: X)
          have hcat := catB ([45] ++ x :: X) tl
          have hsz2 : (ByteArray.mk ([45] ++ x :: X).toArray).size = X.length + 2 := by rw [sz_mk]; simp
          go_wp2_with fail
          go_ret
          exact ⟨by rw [HT.out]; rfl, kr⟩
end Go.Proofs.YtpdjpjkieafnbaaGreatDoor.Li
