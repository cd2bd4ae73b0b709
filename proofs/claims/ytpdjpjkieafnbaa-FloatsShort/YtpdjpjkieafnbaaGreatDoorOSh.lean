import Derived.Test.YtpdjpjkieafnbaaGreatDoorSG1
import Derived.Test.YtpdjpjkieafnbaaGreatDoorSM5
import Derived.Test.YtpdjpjkieafnbaaGreatDoorT4
import Derived.Test.YtpdjpjkieafnbaaGreatDoorT1
import Derived.Test.YtpdjpjkieafnbaaGreatDoorH1
import Derived.Test.YtpdjpjkieafnbaaGreatDoorCards
import Derived.Test.YtpdjpjkieafnbaaGreatDoorTie
import Derived.Test.YtpdjpjkieafnbaaGreatDoorRows
import Derived.Test.YtpdjpjkieafnbaaGreatDoorChecked
import Derived.ProofKit
import Derived.OpenShut
import Derived.SizedLaws
import Derived.Deep.DeepHandedRow
import Derived.Lib.LaidTab
import Derived.Lib.TrailingZeros
import Derived.Deep.Slices
import Derived.Laws.Cover2
import Derived.Lib.AppendIntMem
set_option linter.unusedVariables false
set_option linter.unusedSimpArgs false
namespace Go.Proofs.YtpdjpjkieafnbaaGreatDoor.Li
open Go.RowKit Lb
theorem sg_filter : ∀ (l : List UInt8) (q : Nat × Int × Int), l.foldl sgStep q = (l.filter isD).foldl sgStep q
  | [], q => rfl
  | c :: t, q => by
    rw [List.foldl_cons, List.filter_cons]
    by_cases h : isD c = true
    · rw [if_pos h, List.foldl_cons]
      exact sg_filter t _
    · rw [if_neg h]
      have e : sgStep q c = q := by unfold sgStep; rw [if_neg h]
      rw [e]
      exact sg_filter t q
theorem sg_zeros (k n : Nat) (f l : Int) : (List.replicate k (48 : UInt8)).foldl sgStep (n, f, l) = (n + k, f, l) := by
  induction k generalizing n with
  | zero => rfl
  | succ k ih =>
    rw [List.replicate_succ, List.foldl_cons]
    have e : sgStep (n, f, l) 48 = (n + 1, f, l) := by
      unfold sgStep
      rw [if_pos (by decide), if_pos rfl]
    rw [e, ih]
    congr 1
    omega
theorem sg_mid : ∀ (X : List UInt8) (n : Nat) (f l : Int), allD X → 0 ≤ f → ∃ l', X.foldl sgStep (n, f, l) = (n + X.length, f, l')
  | [], n, f, l, _, _ => ⟨l, rfl⟩
  | c :: t, n, f, l, h, hf => by
    have hc := h c (List.mem_cons_self ..)
    have ht : allD t := fun b hb => h b (List.mem_cons_of_mem _ hb)
    rw [List.foldl_cons]
    by_cases h0 : c = 48
    · have e : sgStep (n, f, l) c = (n + 1, f, l) := by unfold sgStep; rw [if_pos hc, if_pos h0]
      obtain ⟨l', hl⟩ := sg_mid t (n + 1) f l ht hf
      exact ⟨l', by rw [e, hl, List.length_cons]; congr 1; omega⟩
    · have e : sgStep (n, f, l) c = (n + 1, f, (n : Int)) := by
        unfold sgStep
        rw [if_pos hc, if_neg h0]
        simp only
        rw [if_neg (by omega)]
      obtain ⟨l', hl⟩ := sg_mid t (n + 1) f (n : Int) ht hf
      exact ⟨l', by rw [e, hl, List.length_cons]; congr 1; omega⟩
/-- Digits that begin and end with no nought. -/
theorem sg_core (X : List UInt8) (n : Nat) (hX : allD X) (h0 : X ≠ []) (hh : X.head? ≠ some 48) (hl : X.getLast? ≠ some 48) : X.foldl sgStep (n, -1, -1) = (n + X.length, (n : Int), (n : Int) + X.length - 1) := by
  cases X with
  | nil => exact absurd rfl h0
  | cons y R =>
    have hy : y ≠ 48 := by simpa using hh
    have hyd := hX y (List.mem_cons_self ..)
    have e : sgStep (n, -1, -1) y = (n + 1, (n : Int), (n : Int)) := by
      unfold sgStep
      rw [if_pos hyd, if_neg hy]
      rfl
    rw [List.foldl_cons, e]
    rcases List.eq_nil_or_concat R with hR | ⟨M, z, hR⟩
    · subst hR
      simp
    · rw [List.concat_eq_append] at hR
      subst hR
      have hz : z ≠ 48 := by
        intro q
        apply hl
        rw [q, ← List.cons_append, List.getLast?_append]
        rfl
      have hzd := hX z (by simp)
      have hM : allD M := fun b hb => hX b (by simp [hb])
      rw [List.foldl_append]
      obtain ⟨l', hl'⟩ := sg_mid M (n + 1) (n : Int) (n : Int) hM (by omega)
      rw [hl', List.foldl_cons, List.foldl_nil]
      unfold sgStep
      rw [if_pos hzd, if_neg hz]
      simp only
      rw [if_neg (by omega)]
      simp only [List.length_cons, List.length_append, List.length_nil]
      refine Prod.ext (by simp; omega) (Prod.ext rfl ?_)
      simp
      omega
/-- The digits of a text that count. -/
theorem sgI_of (s : List UInt8) (a b : Nat) (X : List UInt8) (h : (s.takeWhile notE).filter isD = List.replicate a 48 ++ (X ++ List.replicate b 48)) (hX : allD X) (h0 : X ≠ []) (hh : X.head? ≠ some 48) (hl : X.getLast? ≠ some 48) : sgI s = X.length := by
  unfold sgI sgF
  rw [sg_filter, h, List.foldl_append, List.foldl_append, sg_zeros a 0 (-1) (-1), sg_core X _ hX h0 hh hl, sg_zeros]
  simp only
  omega
theorem tw_notE (A R : List UInt8) (hA : ∀ b ∈ A, notE b = true) (hR : R = [] ∨ ∃ r, R = 101 :: r) : (A ++ R).takeWhile notE = A := by
  refine tw_end hA ?_
  rcases hR with q | ⟨r, q⟩
  · exact .inl q
  · exact .inr ⟨101, r, q, by decide⟩
theorem isD_notE {c : UInt8} (h : isD c = true) : notE c = true := by
  unfold notE
  apply decide_eq_true
  rintro rfl
  exact absurd h (by decide)
theorem flt_all {X : List UInt8} (h : allD X) : X.filter isD = X := List.filter_eq_self.2 h
theorem dD_head {n : Nat} (h : 0 < n) : (dD n).head? ≠ some 48 := by
  intro q
  cases hd : dD n with
  | nil => exact dD_ne n hd
  | cons y R =>
    rw [hd] at q
    have hy : y = 48 := by simpa using q
    have h1 := dD_geZ n n (Nat.le_refl _) h
    have h2 := dD_nat n n (Nat.le_refl _)
    rw [hd] at h1 h2
    rw [nat_cons, hy, show dv 48 = 0 by decide, Nat.zero_mul, Nat.zero_add] at h2
    have hR : allD R := fun b hb => dD_d n n (Nat.le_refl _) b (by rw [hd]; exact List.mem_cons_of_mem _ hb)
    have h3 := nat_lt hR
    rw [List.length_cons, Nat.add_sub_cancel] at h1
    omega
theorem dD_last {n : Nat} (h : n % 10 ≠ 0) : (dD n).getLast? ≠ some 48 := by
  have key : ∀ d : Nat, d < 10 → d ≠ 0 → UInt8.ofNat (48 + d) ≠ 48 := by
    intro d h1 h2 q
    have := congrArg UInt8.toNat q
    rw [ofNat_toNat (by omega)] at this
    have e : (48 : UInt8).toNat = 48 := rfl
    omega
  by_cases c : n < 10
  · rw [dD_small c]
    intro q
    exact key n c (by omega) (Option.some.inj q)
  · rw [dD_step c, List.getLast?_append]
    intro q
    exact key _ (Nat.mod_lt _ (by omega)) h (Option.some.inj q)
/-- What is written has as many digits that count as digits were chosen. -/
theorem sg_written (ng : Bool) (n : Nat) (p : Int) (h1 : 0 < n) (h2 : n % 10 ≠ 0) : sgI (sgS ng (loT (dD n) p)) = (dD n).length := by
  have hd := dD_d n n (Nat.le_refl _)
  have hE : ∀ b ∈ dD n, notE b = true := fun b hb => isD_notE (hd b hb)
  have hne := dD_ne n
  have hh := dD_head h1
  have hl := dD_last h2
  have hz : ∀ k, ∀ b ∈ List.replicate k (48 : UInt8), notE b = true := fun k b hb => by rw [(List.mem_replicate.1 hb).2]; decide
  have hzd : ∀ k, allD (List.replicate k (48 : UInt8)) := fun k b hb => by rw [(List.mem_replicate.1 hb).2]; decide
  have hs : ∀ b ∈ (if ng then [45] else [] : List UInt8), notE b = true := by
    intro b hb
    cases ng
    · simp at hb
    · simp at hb; rw [hb]; decide
  have hsf : (if ng then [45] else [] : List UInt8).filter isD = [] := by cases ng <;> decide
  generalize dD n = d at *
  unfold sgS loT
  generalize (if ng then [45] else [] : List UInt8) = S at *
  split
  · refine sgI_of _ 0 p.toNat d ?_ hd hne hh hl
    have e : (S ++ (d ++ List.replicate p.toNat 48)) = S ++ (d ++ List.replicate p.toNat 48) ++ [] := by simp
    rw [e, tw_notE _ [] (by intro b hb; simp only [List.mem_append] at hb; rcases hb with q | q | q; exact hs b q; exact hE b q; exact hz _ b q) (.inl rfl)]
    rw [List.filter_append, hsf, List.filter_append, flt_all hd, flt_all (hzd _)]
    rfl
  · split
    · rename_i c1 c2
      generalize ((d.length : Int) + p).toNat = k
      refine sgI_of _ 0 0 d ?_ hd hne hh hl
      have e : (S ++ (d.take k ++ 46 :: d.drop k)) = S ++ (d.take k ++ 46 :: d.drop k) ++ [] := by simp
      rw [e, tw_notE _ [] (by
        intro b hb
        simp only [List.mem_append, List.mem_cons] at hb
        rcases hb with q | q | q | q
        · exact hs b q
        · exact hE b (List.mem_of_mem_take q)
        · rw [q]; decide
        · exact hE b (List.mem_of_mem_drop q)) (.inl rfl)]
      rw [List.filter_append, hsf, List.filter_append, flt_all (fun b hb => hd b (List.mem_of_mem_take hb)), List.filter_cons, if_neg (by decide), flt_all (fun b hb => hd b (List.mem_of_mem_drop hb)), List.take_append_drop]
      simp
    · split
      · generalize (-((d.length : Int) + p)).toNat = k
        refine sgI_of _ (k + 1) 0 d ?_ hd hne hh hl
        have e : (S ++ (48 :: 46 :: (List.replicate k 48 ++ d))) = S ++ (48 :: 46 :: (List.replicate k 48 ++ d)) ++ [] := by simp
        rw [e, tw_notE _ [] (by
          intro b hb
          simp only [List.mem_append, List.mem_cons] at hb
          rcases hb with q | q | q | q | q
          · exact hs b q
          · rw [q]; decide
          · rw [q]; decide
          · exact hz _ b q
          · exact hE b q) (.inl rfl)]
        rw [List.filter_append, hsf, List.filter_cons, if_pos (by decide), List.filter_cons, if_neg (by decide), List.filter_append, flt_all (hzd _), flt_all hd, List.replicate_succ]
        simp
      · refine sgI_of _ 0 0 d ?_ hd hne hh hl
        generalize wsT ((d.length : Int) + p - 1) = W
        by_cases c : 1 < d.length
        · rw [if_pos c, ← List.append_assoc, tw_notE _ (101 :: W) (by
            intro b hb
            simp only [List.mem_append, List.mem_cons] at hb
            rcases hb with q | q | q | q
            · exact hs b q
            · exact hE b (List.mem_of_mem_take q)
            · rw [q]; decide
            · exact hE b (List.mem_of_mem_drop q)) (.inr ⟨W, rfl⟩)]
          rw [List.filter_append, hsf, List.filter_append, flt_all (fun b hb => hd b (List.mem_of_mem_take hb)), List.filter_cons, if_neg (by decide), flt_all (fun b hb => hd b (List.mem_of_mem_drop hb)), List.take_append_drop]
          simp
        · rw [if_neg c, ← List.append_assoc, tw_notE _ (101 :: W) (by
            intro b hb
            simp only [List.mem_append] at hb
            rcases hb with q | q
            · exact hs b q
            · exact hE b q) (.inr ⟨W, rfl⟩)]
          rw [List.filter_append, hsf, flt_all hd]
          simp
end Go.Proofs.YtpdjpjkieafnbaaGreatDoor.Li
set_option linter.unusedVariables false
set_option linter.unusedSimpArgs false
namespace Go.Proofs.YtpdjpjkieafnbaaGreatDoor.Li
open Go.RowKit Lb
theorem dw_head (l : List UInt8) : (l.dropWhile fun b => b == 48).head? ≠ some 48 := by
  induction l with
  | nil => simp
  | cons a t ih =>
    rw [List.dropWhile_cons]
    by_cases h : (a == 48) = true
    · rw [if_pos h]; exact ih
    · rw [if_neg h]
      intro q
      have : a = 48 := by simpa using q
      rw [this] at h
      exact h rfl
theorem tl0_split (l : List UInt8) : ∃ a, l = List.replicate a 48 ++ tl0 l := by
  refine ⟨(l.takeWhile fun b => b == 48).length, ?_⟩
  have e : l.takeWhile (fun b => b == 48) = List.replicate (l.takeWhile fun b => b == 48).length 48 := by
    rw [List.eq_replicate_iff]
    refine ⟨rfl, fun b hb => ?_⟩
    have := tw_all (fun b : UInt8 => b == 48) l b hb
    simpa using this
  rw [← e]
  exact (List.takeWhile_append_dropWhile).symm
theorem len_eq {c n : Nat} (h0 : 0 < c) (h1 : 10 ^ (n - 1) ≤ c) (h2 : c < 10 ^ n) (hn : 0 < n) : (dD c).length = n := by
  have a := ten_lt (Nat.lt_of_le_of_lt h1 (dD_ltZ c))
  have b := ten_lt (Nat.lt_of_le_of_lt (dD_geZ c c (Nat.le_refl _) h0) h2)
  have d : 0 < (dD c).length := List.length_pos_iff.2 (dD_ne _)
  omega
theorem plT_zeroZ (l : List UInt8) : plT l 0 = tD l := by
  unfold plT tD
  split
  · rfl
  · unfold plD
    rw [if_neg (by omega), ← List.length_map (f := dch), List.take_length]
theorem tD_allZ (l : List UInt8) : allD (tD l) := by
  unfold tD
  split
  · intro b hb
    simp at hb
    rw [hb]
    decide
  · exact dch_all l
/-- The digits that count in a text as plain lays it. -/
theorem sg_text (ng ns : Bool) (l E : List UInt8) (h : 0 < nat (tD l)) : ∃ c q : Nat, 0 < c ∧ nat (tD l) = c * 10 ^ q ∧ sgI ((if ng then [45] else []) ++ (plT l 0 ++ ptx ns E)) = (dD c).length := by
  have hA := tD_allZ l
  rw [plT_zeroZ]
  generalize tD l = X at *
  obtain ⟨q, h1, h2, h3, h4, h5, h6⟩ := dec_parts hA
  have hne : tr0 (tl0 X) ≠ [] := by
    intro e
    have := h3 e
    omega
  obtain ⟨h7, h8⟩ := h4 hne
  obtain ⟨q2, hq2⟩ := tr0_split (tl0 X)
  obtain ⟨a, ha⟩ := tl0_split X
  have hlen : 0 < (tr0 (tl0 X)).length := List.length_pos_iff.2 hne
  refine ⟨nat (tr0 (tl0 X)), q, h7, h2, ?_⟩
  rw [len_eq h7 h8 h6 hlen]
  have hs : ∀ b ∈ (if ng then [45] else [] : List UInt8), notE b = true := by
    intro b hb
    cases ng
    · simp at hb
    · simp at hb; rw [hb]; decide
  have hsf : (if ng then [45] else [] : List UInt8).filter isD = [] := by cases ng <;> decide
  refine sgI_of _ a q2 _ ?_ h5 hne ?_ ?_
  · rw [← List.append_assoc, tw_notE _ (ptx ns E) (by
      intro b hb
      rcases List.mem_append.1 hb with r | r
      · exact hs b r
      · exact isD_notE (hA b r)) (.inr ⟨_, rfl⟩)]
    rw [List.filter_append, hsf, flt_all hA, List.nil_append, ← hq2]
    exact ha
  · intro r
    have hh := dw_head X
    apply hh
    show (tl0 X).head? = some 48
    rw [hq2, List.head?_append, r]
    rfl
  · unfold tr0
    rw [List.getLast?_reverse]
    exact dw_head _
/-- A decimal that is read as a number has no fewer digits than Shortest writes. -/
theorem short_ok {x : Nat} (ng ns : Bool) (l E : List UInt8) (V : Int) (hx2 : x < 9218868437227405312) (hk : pKind x = 1 ∨ pKind x = 2) (h : NB (rN l 0 V) (rD l 0 V) x) : ((dD (fwD (pM x) (pE x))).length : Int) ≤ sgI ((if ng then [45] else []) ++ (plT l 0 ++ ptx ns E)) := by
  have hx0 : x ≠ 0 := by
    rintro rfl
    rcases hk with q | q <;> exact absurd q (by decide)
  have hK0 : tK l 0 = 0 := by unfold tK; rw [if_neg (by omega)]
  unfold rN rD at h
  rw [hK0, show V - ((0 : Nat) : Int) = V by omega] at h
  have hpos : 0 < nat (tD l) := by
    rcases Nat.eq_zero_or_pos (nat (tD l)) with q | q
    · exfalso
      rw [q, Nat.zero_mul] at h
      exact hx0 (h.1 rfl)
    · exact q
  obtain ⟨c, q, hc, hcq, hsg⟩ := sg_text ng ns l E hpos
  rw [hsg]
  have h2 : NB (c * 10 ^ (V + (q : Int)).toNat) (10 ^ (-(V + (q : Int))).toNat) x := by
    refine h.same (Nat.pow_pos (by omega)) (Nat.pow_pos (by omega)) ?_
    rw [hcq]
    have e : 10 ^ q * 10 ^ V.toNat * 10 ^ (-(V + (q : Int))).toNat = 10 ^ (V + (q : Int)).toNat * 10 ^ (-V).toNat := by
      rw [← Nat.pow_add, ← Nat.pow_add, ← Nat.pow_add]
      congr 1
      omega
    calc c * 10 ^ q * 10 ^ V.toNat * 10 ^ (-(V + (q : Int))).toNat = c * (10 ^ q * 10 ^ V.toNat * 10 ^ (-(V + (q : Int))).toNat) := by ac_rfl
      _ = c * (10 ^ (V + (q : Int)).toNat * 10 ^ (-V).toNat) := by rw [e]
      _ = c * 10 ^ (V + (q : Int)).toNat * 10 ^ (-V).toNat := by ac_rfl
  have := fw_read hc hx2 hk h2
  omega
end Go.Proofs.YtpdjpjkieafnbaaGreatDoor.Li
set_option linter.unusedVariables false
set_option linter.unusedSimpArgs false
namespace Go.Proofs.YtpdjpjkieafnbaaGreatDoor.Li
open Go.RowKit Lb Nr
theorem andTopU (b : Nat) (hb : b < 18446744073709551616) : bits .and .u64 ((b : Int) / 4503599627370496) 2047 = ((pField b : Nat) : Int) := by
  have e : (b : Int) / 4503599627370496 = ((b / 4503599627370496 : Nat) : Int) := by omega
  rw [e]
  show IntKind.u64.wrap ((BitVec.ofInt 64 ((b / 4503599627370496 : Nat) : Int) &&& BitVec.ofInt 64 ((2047 : Nat) : Int)).toNat : Int) = _
  rw [BitVec.toNat_and, ofInt_u64 _ (by omega), ofInt_u64 _ (by omega), show b / 4503599627370496 &&& 2047 = b / 4503599627370496 % 2048 from Nat.and_two_pow_sub_one_eq_mod _ 11, IntKind.wrap_u64]
  unfold pField
  omega
theorem fin_order {b : Nat} (hb : b < 18446744073709551616) (hf : pField b ≠ 2047) : (FloatKind.f64.format.order b 0 == some Ordering.eq) = decide (pKind b = 0) := by
  have h1 : ¬ Fo.isNaN b := by unfold pField at hf; show ¬ 9218868437227405312 < b % 9223372036854775808; omega
  have h2 : ¬ Fo.isNaN 0 := by show ¬ 9218868437227405312 < 0 % 9223372036854775808; omega
  have e : FloatKind.f64.format.order b 0 = some (compare (Fo.ky b) (Fo.ky 0)) := Fo.order_ky b 0 h1 h2
  rw [e]
  have k0 : Fo.ky 0 = 0 := by decide
  rw [k0]
  have hk : pKind b = 0 ↔ Fo.ky b = 0 := by
    unfold pKind Fo.ky Fo.negB
    unfold pField at *
    unfold pKept
    constructor
    · intro h
      repeat' split at h
      all_goals (try omega)
      all_goals (split <;> omega)
    · intro h
      have hz : b % 9223372036854775808 = 0 := by split at h <;> omega
      repeat' split
      all_goals omega
  by_cases c : Fo.ky b = 0
  · rw [c, decide_eq_true (hk.2 c)]
    rfl
  · rw [decide_eq_false (fun q => c (hk.1 q))]
    have : compare (Fo.ky b) 0 ≠ .eq := fun q => c (Int.compare_eq_eq.1 q)
    cases hc : compare (Fo.ky b) 0 with
    | eq => exact absurd hc this
    | lt => rfl
    | gt => rfl
theorem amount_parts (x : Nat) (ng : Bool) (hx : x < 9218868437227405313) : pM (x + sg ng) = pM x ∧ pE (x + sg ng) = pE x ∧ pKind (x + sg ng) = pKind x := by
  have h1 : pField (x + sg ng) = pField x := by unfold pField sg; split <;> omega
  have h2 : pKept (x + sg ng) = pKept x := by unfold pKept sg; split <;> omega
  unfold pM pE pKind
  rw [h1, h2]
  exact ⟨rfl, rfl, rfl⟩
theorem tailZ (z : Int) (E : List UInt8) : (101 :: ((if z < 0 then [45] else []) ++ E) : List UInt8) = ptx (decide (z < 0)) E := by
  unfold ptx
  by_cases h : z < 0
  · rw [if_pos h, if_pos (decide_eq_true h)]
  · rw [if_neg h, if_neg (by simpa using h)]
theorem kind_inf : pKind 9218868437227405312 = 3 := by
  have h1 : pField 9218868437227405312 = 2047 := by unfold pField; omega
  have h2 : pKept 9218868437227405312 = 0 := by unfold pKept; omega
  unfold pKind
  rw [h1, h2, if_pos rfl, if_pos rfl]
theorem short_all {b : Nat} (l : List UInt8) (hk : pKind b = 1 ∨ pKind b = 2) (ng ns : Bool) (E : List UInt8) (V : Int) (x : Nat) (hNB : NB (rN l 0 V) (rD l 0 V) x) (hxb : x + sg ng = b) : ((dD (fwD (pM b) (pE b))).length : Int) ≤ sgI ((if ng then [45] else []) ++ (plT l 0 ++ ptx ns E)) := by
  have hxl := hNB.le (rD_pos l 0 V)
  obtain ⟨e1, e2, e3⟩ := amount_parts x ng (by omega)
  rw [hxb] at e1 e2 e3
  rw [e1, e2]
  rw [e3] at hk
  refine short_ok ng ns l E V ?_ hk hNB
  rcases Nat.lt_or_eq_of_le hxl with q | q
  · exact q
  · rw [q, kind_inf] at hk
    omega
theorem len17 {n : Nat} (h : n < 100000000000000000) : (dD n).length ≤ 17 := dD_len 16 n (by rw [show (10 : Nat) ^ (16 + 1) = 100000000000000000 by decide]; exact h)
set_option maxRecDepth 100000 in
set_option maxHeartbeats 1000000 in
theorem law_short (b : Nat) (a : Option Addr) (c : Nat) (l : List UInt8) (z : Int) (w : World) (hb : b < 18446744073709551616) (hl : l.length ≤ 140737488351232) (hz : -32768 ≤ z ∧ z ≤ 32767) (hr : Rd5 w a l) (hT : ∀ wx, Keep w wx → Lib.TabIs Tryz.prog wx "internal/strconv.uint64pow10" .u64 Lib.pow10Tab) :
    Calls Tryz.prog 8 #[.int .u64 (b : Int), .slice a l.length c, .int .i16 z] w fun e w' => e = .returned (.bool true) ∧ Keep w w' := by
  have hB := fun wx => begins_any wx
  have h19 := fun wx => f64from b wx
  have hA := andTopU b hb
  by_cases c1 : pField b = 2047
  · rw [c1] at hA
    have hA2 : bits .and .u64 ((b : Int) / 4503599627370496) 2047 = 2047 := hA
    clear hA c1
    go_enter Tryz.func8, Tryz.ntmps8
    go_wp2_with fail
    refine (hB _).mono ?_
    rintro e w1 ⟨rfl, k1⟩
    go_wp2_with fail
    go_ret
    exact ⟨rfl, k1⟩
  have hA2 : (bits .and .u64 ((b : Int) / 4503599627370496) 2047 == 2047) = false := by
    rw [hA, beq_eq_false_iff_ne]
    omega
  have hO := fin_order hb c1
  by_cases c2 : pKind b = 0
  · have hO2 : (FloatKind.f64.format.order b 0 == some Ordering.eq) = true := by rw [hO]; exact decide_eq_true c2
    clear hA c1 hO c2
    go_enter Tryz.func8, Tryz.ntmps8
    go_wp2_with fail
    refine (hB _).mono ?_
    rintro e w1 ⟨rfl, k1⟩
    go_wp2_with fail
    go_ret
    exact ⟨rfl, k1⟩
  have hO2 : (FloatKind.f64.format.order b 0 == some Ordering.eq) = false := by rw [hO]; exact decide_eq_false c2
  have hk : pKind b = 1 ∨ pKind b = 2 := by
    unfold pKind at c2 ⊢
    rw [if_neg c1] at c2 ⊢
    split
    · exact .inr rfl
    · rename_i q
      rw [if_neg q] at c2
      split
      · exact .inl rfl
      · rename_i r
        rw [if_neg r] at c2
        exact absurd rfl c2
  obtain ⟨p1, p2, p3, p4⟩ := kind_parts hk
  obtain ⟨-, -, m3, m4, m5, -, -⟩ := fw_main p1 p2 ⟨p3, p4⟩
  have hSh := fun wx (k : Keep w wx) => Shortest_num b wx hb hk (fun wy ky => hT wy (k.trans ky))
  have hsl : (sgS (pNeg b) (shT (pM b) (pE b))).length ≤ 3000 := by
    have h1 := (fwD_lt p1 p2 ⟨p3, p4⟩).2
    obtain ⟨t1, -, -⟩ := scale_ok p1 p2 ⟨p3, p4⟩
    have hK18 : fwK (pM b) (pE b) ≤ 18 := unK_le _ _ _
    have h2 := loT_len (dD (fwD (pM b) (pE b))) ((fwK (pM b) (pE b) : Int) - tnF (pM b) (pE b)) h1 (by omega)
    unfold sgS shT
    rw [List.length_append]
    split <;> simp <;> omega
  have hSg := fun wx => significant_any (sgS (pNeg b) (shT (pM b) (pE b))) wx (by omega)
  have hsw : sgI (sgS (pNeg b) (shT (pM b) (pE b))) = ((dD (fwD (pM b) (pE b))).length : Int) := sg_written _ _ _ m4 m5
  rw [hsw] at hSg
  have hn1 : 1 ≤ (dD (fwD (pM b) (pE b))).length := List.length_pos_iff.2 (dD_ne _)
  have hn17 : (dD (fwD (pM b) (pE b))).length ≤ 17 := len17 m3
  have HF : Hid (∀ (ng ns : Bool) (E : List UInt8) (V : Int) (x : Nat), NB (rN l 0 V) (rD l 0 V) x → x + sg ng = b → ((dD (fwD (pM b) (pE b))).length : Int) ≤ sgI ((if ng then [45] else []) ++ (plT l 0 ++ ptx ns E))) := fun ng ns E V x h1 h2 => short_all l hk ng ns E V x h1 h2
  generalize (dD (fwD (pM b) (pE b))).length = nn at *
  generalize sgS (pNeg b) (shT (pM b) (pE b)) = sh at *
  have hng : (((b : Int) / 9223372036854775808) == 1) = pNeg b := by
    unfold pNeg
    by_cases q : 9223372036854775808 ≤ b
    · rw [decide_eq_true q, beq_iff_eq]; omega
    · rw [decide_eq_false q, beq_eq_false_iff_ne]; omega
  generalize pNeg b = ng at *
  have HSh : Hid (∀ wx, Keep w wx → Calls Tryz.prog 21 #[.float .f64 b] wx fun e w' => e = .returned (.string ⟨sh.toArray⟩) ∧ Keep wx w') := hSh
  have hSz := fun wx => signT_any z wx (by omega) (by omega)
  have n1 : decide (nn < 1) = false := decide_eq_false (by omega)
  have n2 : decide (17 < nn) = false := decide_eq_false (by omega)
  have n1' : decide ((nn : Int) < 1) = false := decide_eq_false (by omega)
  have n2' : decide ((17 : Int) < (nn : Int)) = false := decide_eq_false (by omega)
  have HR : Hid (Rd5 w a l) := hr
  clear hA c1 hO c2 hk p1 p2 p3 p4 m3 m4 m5 hSh hsl hsw hT hr hn1 hn17
  go_enter Tryz.func8, Tryz.ntmps8
  go_wp2_with fail
  refine (hB _).mono ?_
  rintro e w1 ⟨rfl, k1⟩
  go_wp2_with fail
  refine (HSh.out _ k1).mono ?_
  rintro e w2 ⟨rfl, k2⟩
  have k12 := k1.trans k2
  go_wp2_with fail
  refine (hSg _).mono ?_
  rintro e w3 ⟨rfl, k3⟩
  have k13 := k12.trans k3
  go_wp2_with fail
  refine (hSz _).mono ?_
  rintro e w4 ⟨E, rfl, e1, e2, e3, e4, k4⟩
  have k14 := k13.trans k4
  obtain ⟨S, hS⟩ : ∃ S, (if z < 0 then [45] else []) ++ E = S := ⟨_, rfl⟩
  have hSl : S.length ≤ 20 := by
    rw [← hS, List.length_append]
    split <;> simp <;> omega
  have HT : Hid ((101 :: S : List UInt8) = ptx (decide (z < 0)) E) := by
    unfold Hid
    rw [← hS]
    exact tailZ z E
  rw [hS]
  have hcat : (ByteArray.mk #[101]) ++ ByteArray.mk S.toArray = ⟨(101 :: S).toArray⟩ := catB [101] S
  have hszS : (ByteArray.mk S.toArray).size = S.length := sz_mk S
  have HE : Hid (allD E ∧ E ≠ []) := ⟨e1, e2⟩
  have hPl := fun wx (k : Keep w wx) => plainE_any a c l 0 ng (101 :: S) wx hl (by rw [List.length_cons]; omega) (HR.out.keep k)
  clear hS hSz e1 e2 e3 e4
  go_wp2_with fail
  refine (hPl _ k14).mono ?_
  rintro e w5 ⟨rfl, k5⟩
  have k15 := k14.trans k5
  obtain ⟨tx, htx⟩ : ∃ tx, (if ng then [45] else []) ++ (plT l 0 ++ (101 :: S)) = tx := ⟨_, rfl⟩
  rw [htx]
  have HK5 : Hid (Keep w w5) := k15
  have h34 := fun (x : Nat) wx => f64bits x wx
  by_cases hlong : 4096 < tx.length
  · have hRd := fun wx => Read_long tx wx hlong
    clear hPl htx HT HF k1 k2 k3 k4 k5 k12 k13 k14 k15 hcat
    go_wp2_with fail
    refine (hRd _).mono ?_
    rintro e w6 ⟨rfl, k6⟩
    go_wp2_with fail
    go_ret
    exact ⟨rfl, HK5.out.trans k6⟩
  · have hRd := fun wx => Read_pl ng (decide (z < 0)) l E 0 HE.out.1 HE.out.2 wx (by rw [← HT.out, htx]; omega)
    rw [← HT.out, htx] at hRd
    have HG : Hid (∀ (V : Int) (x : Nat), NB (rN l 0 V) (rD l 0 V) x → x + sg ng = b → (nn : Int) ≤ sgI tx) := by
      intro V x q1 q2
      have := HF.out ng (decide (z < 0)) E V x q1 q2
      rw [← HT.out, htx] at this
      exact this
    have hSg2 := fun wx => significant_any tx wx (by omega)
    clear hPl htx HT HF k1 k2 k3 k4 k5 k12 k13 k14 k15 hcat hSg
    go_wp2_with fail
    refine (hRd _).mono ?_
    rintro e w6 ⟨x, rfl, hNB, k6⟩
    have HK6 : Hid (Keep w w6) := HK5.out.trans k6
    obtain ⟨y, hy⟩ : ∃ y, x + sg ng = y := ⟨_, rfl⟩
    have HG2 := fun q => HG.out _ x hNB (hy.trans q)
    replace HG2 : Hid (y = b → (nn : Int) ≤ sgI tx) := HG2
    rw [hy]
    clear HG hNB hy k6
    by_cases q : y = b
    · have hq : (nn : Int) ≤ sgI tx := HG2.out q
      have b1 : ((y : Int) != (b : Int)) = false := by rw [q]; simp
      have b1' : (y != b) = false := by rw [q]; simp
      have b2 : decide ((nn : Int) ≤ sgI tx) = true := decide_eq_true hq
      generalize sgI tx = sv at *
      clear q hq
      go_wp2_with (first
        | (go_at_call 37; refine (hSg2 _).mono ?_; rintro e w7 ⟨rfl, k7⟩))
      go_ret
      exact ⟨rfl, HK6.out.trans k7⟩
    · have b1 : ((y : Int) != (b : Int)) = true := by rw [bne_iff_ne]; omega
      have b1' : (y != b) = true := by rw [bne_iff_ne]; exact q
      clear q
      go_wp2_with fail
      go_ret
      exact ⟨rfl, HK6.out⟩
end Go.Proofs.YtpdjpjkieafnbaaGreatDoor.Li
set_option linter.unusedVariables false
set_option linter.unusedSimpArgs false
namespace Go.Proofs.YtpdjpjkieafnbaaGreatDoor
open Go.ChangeShapes Go.WideShapes Go.ChangeAt Go.RowKit
theorem own : ownKnob Tryz.prog.godebug = none := by kernel_rfl
theorem laidOut : laidOutB Tryz.prog = true := by kernel_rfl
/-- A world in which all five tables hold what the texts lay. -/
def lay5 (W : World) : World :=
  { W with heap := ((((W.heap.modify 2 fun o => match o with
      | .cells _ t frozen => .cells (Lib.pow10Tab.map (fun n : Int => Value.int .u64 n)).toArray t frozen
      | o => o).modify 6 fun o => match o with
      | .cells _ t frozen => .cells (Lib.deBruijn32tab.map (fun n : Nat => Value.int .u8 (n : Int))).toArray t frozen
      | o => o).modify 1 fun o => match o with
      | .cells _ t frozen => .cells (Lib.deBruijn64tab.map (fun n : Nat => Value.int .u8 (n : Int))).toArray t frozen
      | o => o).modify 4 fun o => match o with
      | .cells _ t frozen => .cells (Pinned.utf8FirstZ.map (fun n : Nat => Value.int .u8 (n : Int))).toArray t frozen
      | o => o).modify 5 fun o => match o with
      | .cells _ t frozen => .cells (([128, 191, 160, 191, 128, 159, 144, 191, 128, 143] ++ List.replicate 22 0).map (fun n : Nat => Value.int .u8 (n : Int))).toArray t frozen
      | o => o }
theorem u64_of {n : Int} (h : (Lit.int .u64 n).wf = true) : ∃ m : Nat, n = (m : Int) ∧ m < 18446744073709551616 := by
  simp only [Lit.wf, IntKind.min, IntKind.max, IntKind.signed, IntKind.bits, Bool.and_eq_true, decide_eq_true_eq] at h
  simp at h
  exact ⟨n.toNat, by omega, by omega⟩
theorem cells5 : Tryz.prog.cellsOf 5 = 1 := by kernel_rfl
theorem u8_of {n : Int} (h : (Lit.int .u8 n).wf = true) : ∃ m : Nat, n = (m : Int) ∧ m ≤ 255 := by
  simp only [Lit.wf, IntKind.min, IntKind.max, IntKind.signed, IntKind.bits, Bool.and_eq_true, decide_eq_true_eq] at h
  simp at h
  exact ⟨n.toNat, by omega, by omega⟩
theorem i64_of {n : Int} (h : (Lit.int .i64 n).wf = true) : -9223372036854775808 ≤ n ∧ n ≤ 9223372036854775807 := by
  simp only [Lit.wf, IntKind.min, IntKind.max, IntKind.signed, IntKind.bits, Bool.and_eq_true, decide_eq_true_eq] at h
  simp at h
  omega
theorem i8_of {n : Int} (h : (Lit.int .i8 n).wf = true) : -128 ≤ n ∧ n ≤ 127 := by
  simp only [Lit.wf, IntKind.min, IntKind.max, IntKind.signed, IntKind.bits, Bool.and_eq_true, decide_eq_true_eq] at h
  simp at h
  omega
set_option maxRecDepth 100000 in
/-- An argument of bytes, opened. -/
theorem open_bytes2 {H : Type} {enc : TypeId × Value → H} {W : World} {base : Nat} {v : Value} {d : DataW H} {p : List MemPlace} (hv : Value.okWide Tryz.prog W .any base 61 v) (h : DataW.Trod enc Tryz.prog W 0 (fun _ => true) true 61 v d p) :
    ∃ a c l, v = .slice a l.length c ∧ l.length ≤ c ∧ Li.Rd5 W a l ∧ (c = 0 ∨ ∃ elems spare, d = .slice elems spare ∧ elems.length + spare.length = c) := by
  obtain ⟨a, len, cap, rfl⟩ := okWide_slice Tryz.underlying61 hv
  obtain ⟨fuel, hf⟩ := h
  rcases open_ints Tryz.underlying61 Tryz.underlying5 cells5 hf with ⟨hcs, _⟩ | ⟨x, l, c, zs, hcs, _, hl, hm, hz, hx, hcell, hwz⟩
  · simp [Value.cells] at hcs
    obtain ⟨rfl, rfl, rfl⟩ := hcs
    exact ⟨none, 0, [], rfl, Nat.le_refl _, by intro j hj; simp at hj, .inl rfl⟩
  · simp [Value.cells] at hcs
    obtain ⟨rfl, rfl, rfl⟩ := hcs
    simp only [Prod.mk.injEq] at hx
    simp only [if_true] at hz
    have hlen : ((zs.take len).map (fun z : Int => UInt8.ofNat z.toNat)).length = len := by simp; omega
    refine ⟨some x, cap, (zs.take len).map (fun z : Int => UInt8.ofNat z.toNat), by rw [hlen], by omega, ?_, .inr ⟨_, _, hx.1, by simp [lits]; omega⟩⟩
    intro j hj
    rw [hlen] at hj
    obtain ⟨b, off, rfl, hc⟩ := ints_at hcell (by omega)
    refine ⟨b, off, rfl, ?_⟩
    rw [hc j (by omega)]
    have hjl : j < zs.length := by omega
    obtain ⟨m, hm1, hm2⟩ := u8_of (hwz zs[j] (List.getElem_mem hjl))
    have e : ((zs.take len).map (fun z : Int => UInt8.ofNat z.toNat)).getD j 0 = UInt8.ofNat m := by
      simp [List.getD, hj, hjl, hm1]
    have e2 : (UInt8.ofNat m).toNat = m := by
      rw [UInt8.toNat_ofNat']
      exact Nat.mod_eq_of_lt (by omega)
    rw [e, e2]
    simp [List.getD, hjl, hm1]
theorem bytes5 : Tryz.prog.bytesOf 5 = 1 := by kernel_rfl
/-- What the form's reach says of it. -/
theorem reach_bytes {H : Type} {ts : List TypeId} {ds : List (DataW H)} (hsz : (DataW.weightsEach Tryz.prog ts ds).all (· ≤ reachBytes) = true) {j : Nat} {d : DataW H} {c : Nat} (ht : ts[j]? = some 61) (hd : ds[j]? = some d)
    (h : c = 0 ∨ ∃ elems spare, d = .slice elems spare ∧ elems.length + spare.length = c) : c ≤ 140737488351232 := by
  rcases h with rfl | ⟨elems, spare, rfl, hc⟩
  · omega
  · have := sized_slice hsz ht hd Tryz.underlying61
    rw [bytes5, hc] at this
    simp only [reachBytes] at this
    omega
theorem i16_of {n : Int} (h : (Lit.int .i16 n).wf = true) : -32768 ≤ n ∧ n ≤ 32767 := by
  simp only [Lit.wf, IntKind.min, IntKind.max, IntKind.signed, IntKind.bits, Bool.and_eq_true, decide_eq_true_eq] at h
  simp at h
  omega
theorem gtabP : Tryz.prog.globalNamed "internal/strconv.uint64pow10" = some 2 := by kernel_rfl
theorem ltabP : (Rows.laid_internal_strconv_uint64pow10 : DataW Unit) = Lib.tabData .u64 Lib.pow10Tab := by kernel_rfl
/-- The library's table of powers, from what the row says of it: it stands third. -/
theorem tabP_of {W : World} (h : laidMet Tryz.prog [("math/bits.deBruijn32tab", Rows.laid_math_bits_deBruijn32tab), ("math/bits.deBruijn64tab", Rows.laid_math_bits_deBruijn64tab), ("internal/strconv.uint64pow10", Rows.laid_internal_strconv_uint64pow10), ("unicode/utf8.acceptRanges", Rows.laid_unicode_utf8_acceptRanges), ("unicode/utf8.first", Rows.laid_unicode_utf8_first)] W) : ∀ wx, Li.Keep W wx → Lib.TabIs Tryz.prog wx "internal/strconv.uint64pow10" .u64 Lib.pow10Tab := by
  rw [ltabP] at h
  obtain ⟨ps, ⟨_, _, _, _, _, q, _, _, _, _, ⟨_, _, _, _, _, q2, _, _, _, _, ⟨g', t', cs, fuel, p', q', hg', ht', hvar, hd, _, _⟩, _⟩, _⟩, _⟩ := h
  obtain rfl := Option.some.inj (gtabP.symm.trans hg')
  have hty : (Tryz.prog.globals[2]?).map (·.type) = some 220 := by kernel_rfl
  obtain rfl := Option.some.inj (hty.symm.trans ht')
  have h1 : Lib.TabIs Tryz.prog W "internal/strconv.uint64pow10" .u64 Lib.pow10Tab := by
    unfold Lib.TabIs
    rw [hvar, ← Lib.cells_of_tab Tryz.underlying220 Tryz.underlying26 (by kernel_rfl) (by kernel_rfl) hd]
  exact Lib.tabBelow_of_tabIs h1
end Go.Proofs.YtpdjpjkieafnbaaGreatDoor
