import Derived.Test.YtgjhbolnnnibkaaGreatDoorProg
import Derived.Test.YtgjhbolnnnibkaaGreatDoorFM6
import Derived.WalkKit
import Derived.WalkSpells
import Derived.WalkLawsBesides
import Derived.Deep.Draws
import Derived.Deep.QuietTactic
import Derived.Laws.Externs
import Derived.Shelf.Abstract
import Derived.Below
import Derived.Deep.RegionLaw
import Derived.Laws.CopyOwn
import Derived.BigRegion
import Derived.BigQuiet
import Derived.Deep.RegionHeld3
import Derived.Lib.Bytealg
import Derived.Laws.RangeString
import Derived.Laws.RangeAny
import Derived.Lib.OthersKept
import Derived.Deep.LoopGhost
import Derived.Shelf.Strings.Trim
import Derived.Shelf.Small.Strs
import Derived.Shelf.Strings.Search1
import Derived.Shelf.Strings.Repeat
import Derived.Laws.MathBits
import Derived.Shelf.Small.Bits
import Derived.Laws.BytesArg
import Derived.Deep.RegionWith
import Derived.WalkMore
import Derived.Shelf.Strconv.Itoa0
import Derived.Shelf.Strconv.Itoa1
import Derived.Shelf.Strconv.Itoa2
import Derived.Lib.ItoaMem
import Derived.Lib.Walk
set_option linter.unusedVariables false
set_option linter.unusedSimpArgs false
namespace Go.Proofs.YtgjhbolnnnibkaaGreatDoor
open Go.RowKit Go.Shelf
theorem tkDrop (s ts : List UInt8) (m : Nat) : tk (s.drop m) ts 0 = tk s ts m := by
  unfold tk
  have e : (s.drop m).getD 0 0 = s.getD m 0 := by simp [List.getD, List.getElem?_drop]
  rw [e, List.length_drop]
  by_cases q : m < s.length
  · simp [q, show 0 < s.length - m by omega]
  · simp [q, show ¬ 0 < s.length - m by omega]
theorem tr0_back (l : List UInt8) : l = tr0 l ++ List.replicate (l.length - (tr0 l).length) 48 := by
  have h1 := List.takeWhile_append_dropWhile (p := fun b : UInt8 => b == 48) (l := l.reverse)
  have h2 : l = (l.reverse.dropWhile fun b : UInt8 => b == 48).reverse ++ (l.reverse.takeWhile fun b : UInt8 => b == 48).reverse := by
    rw [← List.reverse_append, h1, List.reverse_reverse]
  have h3 : (l.reverse.takeWhile fun b : UInt8 => b == 48).reverse = List.replicate (l.length - (tr0 l).length) 48 := by
    rw [List.eq_replicate_iff]
    refine ⟨?_, fun b hb => ?_⟩
    · have := congrArg List.length h2
      rw [List.length_append] at this
      unfold tr0
      omega
    · have := tw_all _ _ b (List.mem_reverse.1 hb)
      simpa using this
  rw [h3] at h2
  exact h2
theorem tr0_len (l : List UInt8) : (tr0 l).length ≤ l.length := by
  have := congrArg List.length (tr0_back l)
  rw [List.length_append] at this
  omega
theorem tr0_zeros (l : List UInt8) (k : Nat) : tr0 (l ++ List.replicate k 48) = tr0 l := by
  induction k with
  | zero => simp
  | succ k ih => rw [List.replicate_succ', ← List.append_assoc, tr0_zero, ih]
theorem nat_inj : ∀ {a b : List UInt8}, allD a → allD b → a.length = b.length → nat a = nat b → a = b
  | [], b, _, _, hl, _ => (List.length_eq_zero_iff.1 hl.symm).symm
  | x :: a, [], _, _, hl, _ => by simp at hl
  | x :: a, y :: b, ha, hb, hl, hn => by
    have ha2 : allD a := fun z hz => ha z (List.mem_cons_of_mem _ hz)
    have hb2 : allD b := fun z hz => hb z (List.mem_cons_of_mem _ hz)
    have hl2 : a.length = b.length := by simpa using hl
    rw [nat_cons, nat_cons, hl2] at hn
    have h1 := nat_lt ha2
    have h2 := nat_lt hb2
    rw [hl2] at h1
    have hp : 0 < 10 ^ b.length := Nat.pow_pos (by omega)
    have e1 : (dv x * 10 ^ b.length + nat a) / 10 ^ b.length = dv x := by
      rw [Nat.mul_comm, Nat.mul_add_div hp, Nat.div_eq_of_lt h1, Nat.add_zero]
    have e2 : (dv y * 10 ^ b.length + nat b) / 10 ^ b.length = dv y := by
      rw [Nat.mul_comm, Nat.mul_add_div hp, Nat.div_eq_of_lt h2, Nat.add_zero]
    have e3 : dv x = dv y := by rw [← e1, hn, e2]
    have e4 : nat a = nat b := by rw [e3] at hn; omega
    have dx := of_decide_eq_true (ha x (List.mem_cons_self ..))
    have dy := of_decide_eq_true (hb y (List.mem_cons_self ..))
    have e5 : x = y := by
      apply UInt8.toNat_inj.1
      unfold dv at e3
      omega
    rw [e5, nat_inj ha2 hb2 hl2 e4]
/-- A text of a sign, digits, and a part, taken apart. -/
theorem apart {ng : Bool} {D P : List UInt8} {s : List UInt8} (hs : s = (if ng then [45] else []) ++ (D ++ P)) (hD : allD D) (hD0 : D ≠ []) (hP : P = [] ∨ ∃ F, P = 46 :: F ∧ allD F ∧ F ≠ [] ∧ F.length ≤ 6) :
    pNg s = ng ∧ pWh s = D ∧ rGood s ∧ pPt 6 s = P.drop 1 := by
  obtain ⟨K, hK⟩ : ∃ K, (if ng then 1 else 0) = K := ⟨_, rfl⟩
  have hdrop : s.drop K = D ++ P := by
    rw [hs, ← hK]
    cases ng <;> simp
  have hlen : s.length = K + (D ++ P).length := by
    rw [hs, ← hK]
    cases ng <;> simp [Nat.add_comm]
  have hng : pNg s = ng := by
    cases ng with
    | true =>
      rw [hs]
      unfold pNg tk
      simp
    | false =>
      obtain ⟨d, D', rfl⟩ : ∃ d D', D = d :: D' := by
        cases D with
        | nil => exact absurd rfl hD0
        | cons d D' => exact ⟨d, D', rfl⟩
      rw [hs]
      unfold pNg tk
      apply decide_eq_false
      rintro ⟨-, h⟩
      have h2 : d = 45 := by simpa using h
      have := hD d (List.mem_cons_self ..)
      rw [h2] at this
      exact absurd this (by decide)
  have hk1 : pK1 s = K := by unfold pK1; rw [hng]; exact hK
  have hPd : P.takeWhile isD = [] := by
    rcases hP with rfl | ⟨F, rfl, -⟩
    · rfl
    · rw [List.takeWhile_cons_of_neg (by decide)]
  have hwh : pWh s = D := by
    unfold pWh dg
    rw [hk1, hdrop, List.takeWhile_append_of_pos hD, hPd, List.append_nil]
    apply List.take_of_length_le
    rw [hlen, List.length_append]
    omega
  have hk2 : pK2 s = K + D.length := by unfold pK2; rw [hk1, hwh]
  have hD1 : 0 < (pWh s).length := by rw [hwh]; exact List.length_pos_iff.2 hD0
  have hdr2 : s.drop (K + D.length) = P := by
    rw [← List.drop_drop, hdrop, List.drop_left]
  rcases hP with rfl | ⟨F, rfl, hF, hF0, hF6⟩
  · have hd : tk s [46] (K + D.length) = false := by rw [← tkDrop, hdr2]; rfl
    obtain ⟨a1, a2, a3, a4⟩ := no_dot hD1 hk2 hd
    refine ⟨hng, hwh, ⟨a4, ?_⟩, by rw [a2]; rfl⟩
    rw [a3, hlen]
    simp
  · have hd : tk s [46] (K + D.length) = true := by rw [← tkDrop, hdr2]; unfold tk; simp
    have hdr3 : s.drop (K + D.length + 1) = F := by
      rw [← List.drop_drop, hdr2]
      rfl
    have hp : dg s (K + D.length + 1) 6 = F := by
      unfold dg
      rw [hdr3]
      have : F.takeWhile isD = F := by
        have := List.takeWhile_append_of_pos (p := isD) (l₁ := F) (l₂ := []) hF
        simpa using this
      rw [this]
      exact List.take_of_length_le hF6
    have hdot : pDot s = true := by
      unfold pDot
      rw [hk2, hd]
      have : (pWh s == []) = false := by rw [hwh]; simpa using hD0
      rw [this]
      rfl
    have hpt : pPt 6 s = F := by unfold pPt; rw [hdot, hk2]; exact hp
    refine ⟨hng, hwh, ⟨?_, ?_⟩, hpt⟩
    · unfold pOk
      rw [hpt, hwh]
      have h1 : (D == []) = false := by simpa using hD0
      have h2 : (F == []) = false := by simpa using hF0
      rw [h1, h2]
      simp
    · unfold pK3
      rw [hdot, hpt, hk2, hlen]
      simp
      omega
theorem pad6_len {l : List UInt8} (h : l.length ≤ 6) : (pad6 l).length = 6 := by unfold pad6; rw [List.length_append, List.length_replicate]; omega
theorem pad6_nat (l : List UInt8) : nat (pad6 l) = nat l := by unfold pad6; rw [nat_append, nat_zeros]; simp
theorem pad6_d {l : List UInt8} (h : allD l) : allD (pad6 l) := (allD.zeros _).app h
theorem dD_ne (n : Nat) : dD n ≠ [] := by
  rw [dD]
  split
  · simp
  · simp
/-- What Print writes is read as it was. -/
theorem print_read (v : Int) (hv : I64 v) : rGood (prt v) ∧ pNg (prt v) = decide (v < 0) ∧ rN (prt v) = v.natAbs ∧ (prt v).length ≤ 27 := by
  obtain ⟨u, hu⟩ : ∃ u, v.natAbs = u := ⟨_, rfl⟩
  have hub : u ≤ 9223372036854775808 := by unfold I64 at hv; omega
  have hr : u % 1000000 < 1000000 := Nat.mod_lt _ (by omega)
  have hl6 : (dD (u % 1000000)).length ≤ 6 := dD_len 5 _ hr
  have hdq : (dD (u / 1000000)).length ≤ 19 := dD_len 18 _ (by omega)
  obtain ⟨P, hP⟩ : ∃ P, (if u % 1000000 = 0 then [] else 46 :: tr0 (pad6 (dD (u % 1000000)))) = P := ⟨_, rfl⟩
  have hs : prt v = (if decide (v < 0) then [45] else []) ++ (dD (u / 1000000) ++ P) := by
    unfold prt
    rw [hu, hP]
    simp
  have hpd : allD (pad6 (dD (u % 1000000))) := pad6_d (dD_d _ _ (Nat.le_refl _))
  have htd : allD (tr0 (pad6 (dD (u % 1000000)))) := by
    intro b hb
    apply hpd
    rw [tr0_back (pad6 (dD (u % 1000000)))]
    exact List.mem_append_left _ hb
  have hP2 : P = [] ∨ ∃ F, P = 46 :: F ∧ allD F ∧ F ≠ [] ∧ F.length ≤ 6 := by
    by_cases h0 : u % 1000000 = 0
    · left; rw [← hP, if_pos h0]
    · right
      refine ⟨_, by rw [← hP, if_neg h0], htd, ?_, ?_⟩
      · intro e
        have h1 := (tr0_nil _).1 e
        have h2 : nat (pad6 (dD (u % 1000000))) = u % 1000000 := by rw [pad6_nat, dD_nat _ _ (Nat.le_refl _)]
        have h3 : pad6 (dD (u % 1000000)) = List.replicate 6 48 := by
          rw [List.eq_replicate_iff]
          exact ⟨pad6_len hl6, h1⟩
        rw [h3, nat_zeros] at h2
        exact h0 h2.symm
      · have := tr0_len (pad6 (dD (u % 1000000)))
        rw [pad6_len hl6] at this
        exact this
  obtain ⟨a1, a2, a3, a4⟩ := apart hs (dD_d _ _ (Nat.le_refl _)) (dD_ne _) hP2
  have hPl : P.length ≤ 7 := by
    rcases hP2 with rfl | ⟨F, rfl, -, -, h⟩
    · simp
    · simp; omega
  refine ⟨a3, a1, ?_, ?_⟩
  · rw [← rN_of a2 a4 (by rw [List.length_drop]; omega), nat_append, dD_nat _ _ (Nat.le_refl _)]
    have e : P.drop 1 ++ List.replicate (6 - (P.drop 1).length) 48 = pad6 (dD (u % 1000000)) := by
      by_cases h0 : u % 1000000 = 0
      · have : P = [] := by rw [← hP, if_pos h0]
        rw [this, h0, dD_small (by omega)]
        decide
      · have h1 : P.drop 1 = tr0 (pad6 (dD (u % 1000000))) := by rw [← hP, if_neg h0]; rfl
        rw [h1]
        have := tr0_back (pad6 (dD (u % 1000000)))
        rw [pad6_len hl6] at this
        exact this.symm
    rw [e, pad6_len hl6, pad6_nat, dD_nat _ _ (Nat.le_refl _), hu]
    omega
  · rw [hs, List.length_append, List.length_append]
    have : (if decide (v < 0) = true then [45] else ([] : List UInt8)).length ≤ 1 := by split <;> simp
    omega
/-- What is read so is rounded so. -/
theorem read_rounded {s : List UInt8} (h : rGood s) : oGood s ∧ oN s = rN s := by
  obtain ⟨h1, h2⟩ := h
  have hw : (pWh s == []) = false := by
    have := (Bool.and_eq_true_iff.1 h1).1
    simpa using this
  have hpt : pPt s.length s = pPt 6 s := by
    cases hd : pDot s with
    | false => unfold pPt; rw [hd]; rfl
    | true =>
      unfold pK3 at h2
      rw [hd] at h2
      unfold pPt at h2 ⊢
      rw [hd] at h2 ⊢
      simp only [if_true] at h2 ⊢
      unfold dg at h2 ⊢
      have hle := (List.takeWhile_prefix (p := isD) (l := s.drop (pK2 s + 1))).length_le
      rw [List.length_drop] at hle
      rw [List.length_take] at h2
      rw [List.take_of_length_le (by omega), List.take_of_length_le (by omega)]
  have hk : pK3 s.length s = s.length := by
    have a : pK3 s.length s = pK3 6 s := by unfold pK3; rw [hpt]
    rw [a]
    exact h2
  have hok : pOk s.length s = true := by rw [← h1]; unfold pOk; rw [hpt]
  have hoK : oK s = s.length := hk
  have he : qE s (oK s) = false := by
    unfold qE tk
    apply decide_eq_false
    rintro ⟨a, -⟩
    omega
  have hend : oEnd s = s.length := by unfold oEnd qK; rw [hok, he]; exact hoK
  refine ⟨⟨by unfold oOk qOk; rw [hok, he]; rfl, hend⟩, ?_⟩
  unfold oN rN qP
  rw [he, show oPt s = pPt 6 s from hpt]
  rfl
/-- What Print writes of it is no longer a text. -/
theorem no_longer {s : List UInt8} (h : rGood s) {a : Int} (ha : a = sgV (pNg s) (rN s)) (he : sgE (pNg s) (rN s) = 0) (h0 : a ≠ 0) : (prt a).length ≤ s.length := by
  obtain ⟨h1, h2⟩ := h
  have hu : a.natAbs = rN s ∧ (a < 0 ↔ pNg s = true) := by
    unfold sgV at ha
    unfold sgE at he
    by_cases q1 : pNg s = true ∧ rN s ≤ 9223372036854775808
    · rw [if_pos q1] at ha
      refine ⟨by omega, fun _ => q1.1, fun _ => by omega⟩
    · rw [if_neg q1] at ha he
      by_cases q2 : pNg s = false ∧ rN s < 9223372036854775808
      · rw [if_pos q2] at ha
        refine ⟨by omega, fun _ => by omega, fun q => by rw [q2.1] at q; cases q⟩
      · rw [if_neg q2] at he
        cases he
  obtain ⟨hu, hsg⟩ := hu
  have hwD := pWh_d s
  have hpD := pPt_d 6 s
  have hw0 : pWh s ≠ [] := by
    have := (Bool.and_eq_true_iff.1 h1).1
    simpa using this
  have hp6 : (pPt 6 s).length ≤ 6 := by
    unfold pPt
    split
    · unfold dg; rw [List.length_take]; omega
    · simp
  obtain ⟨Z, hZ⟩ : ∃ Z, pPt 6 s ++ List.replicate (6 - (pPt 6 s).length) 48 = Z := ⟨_, rfl⟩
  have hZl : Z.length = 6 := by rw [← hZ, List.length_append, List.length_replicate]; omega
  have hZd : allD Z := by rw [← hZ]; exact hpD.app (allD.zeros _)
  have hN := rN_of (s := s) rfl rfl hp6
  rw [hZ, nat_append, hZl] at hN
  have hf := nat_lt hZd
  rw [hZl] at hf
  have e1 : rN s / 1000000 = nat (pWh s) := by omega
  have e2 : rN s % 1000000 = nat Z := by omega
  have l1 : (dD (nat (pWh s))).length ≤ (pWh s).length := by
    obtain ⟨k, hk⟩ : ∃ k, (pWh s).length = k + 1 := ⟨(pWh s).length - 1, by have := List.length_pos_iff.2 hw0; omega⟩
    rw [hk]
    apply dD_len
    rw [← hk]
    exact nat_lt hwD
  have l2 : (if nat Z = 0 then [] else 46 :: tr0 (pad6 (dD (nat Z)))).length ≤ if pDot s then 1 + (pPt 6 s).length else 0 := by
    by_cases q : nat Z = 0
    · rw [if_pos q]; simp
    · rw [if_neg q]
      have e3 : pad6 (dD (nat Z)) = Z := by
        apply nat_inj (pad6_d (dD_d _ _ (Nat.le_refl _))) hZd
        · rw [pad6_len (dD_len 5 _ (by omega)), hZl]
        · rw [pad6_nat, dD_nat _ _ (Nat.le_refl _)]
      rw [e3, ← hZ, tr0_zeros]
      have h3 := tr0_len (pPt 6 s)
      cases hd : pDot s with
      | true =>
        simp
        omega
      | false =>
        exfalso
        apply q
        have : pPt 6 s = [] := by unfold pPt; rw [hd]; rfl
        rw [← hZ, this, List.nil_append, nat_zeros]
  have l3 : s.length = pK1 s + (pWh s).length + if pDot s then 1 + (pPt 6 s).length else 0 := by
    rw [← h2]
    unfold pK3 pK2
    split <;> omega
  unfold prt
  rw [hu, e1, e2, List.length_append, List.length_append, l3]
  have l4 : (if a < 0 then [45] else ([] : List UInt8)).length ≤ pK1 s := by
    unfold pK1
    by_cases q : a < 0
    · rw [if_pos q, if_pos (hsg.1 q)]; simp
    · rw [if_neg q]; simp
  omega
end Go.Proofs.YtgjhbolnnnibkaaGreatDoor
set_option linter.unusedVariables false
set_option linter.unusedSimpArgs false
namespace Go.Proofs.YtgjhbolnnnibkaaGreatDoor
open Go.RowKit Go.Shelf
/-- What is said of a text by its rounding. -/
structure RoA (s : List UInt8) (V E K : Int) : Prop where
  good : oGood s → V = sgV (pNg s) (oN s) ∧ E = sgE (pNg s) (oN s) ∧ K = 0
  bad : ¬ oGood s → V = 0 ∧ E = 40 ∧ K = (oEnd s : Int)
theorem RoA.of_bad {s : List UInt8} {K : Int} (hg : ¬ oGood s) (hK : K = (oEnd s : Int)) : RoA s 0 40 K := ⟨fun q => absurd q hg, fun _ => ⟨rfl, rfl, hK⟩⟩
theorem RoA.of_good {s : List UInt8} {V E : Int} (hg : oGood s) (hV : V = sgV (pNg s) (oN s)) (hE : E = sgE (pNg s) (oN s)) : RoA s V E 0 := ⟨fun _ => ⟨hV, hE, rfl⟩, fun q => absurd hg q⟩
theorem Rounded_any (s : List UInt8) (w : World) (hs : s.length ≤ 4096) :
    Calls Tryz.prog 18 #[.string ⟨s.toArray⟩] w fun e w' => (∃ V E K, e = .returned (.tuple #[.int .i64 V, .int .i64 E, .int .i64 K]) ∧ RoA s V E K) ∧ Keep w w' := by
  by_cases hg : oGood s
  · refine (Rounded_good s w hs hg).mono ?_
    rintro e w' ⟨rfl, k⟩
    exact ⟨⟨_, _, _, rfl, RoA.of_good hg rfl rfl⟩, k⟩
  · refine (Rounded_fault s w hs hg).mono ?_
    rintro e w' ⟨rfl, k⟩
    exact ⟨⟨_, _, _, rfl, RoA.of_bad hg rfl⟩, k⟩
end Go.Proofs.YtgjhbolnnnibkaaGreatDoor
