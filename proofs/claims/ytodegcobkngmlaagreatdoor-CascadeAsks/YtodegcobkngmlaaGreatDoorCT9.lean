import Derived.Test.YtodegcobkngmlaaGreatDoorProg
import Derived.Test.YtodegcobkngmlaaGreatDoorCM2
import Derived.Test.YtodegcobkngmlaaGreatDoorCS18
import Derived.WalkKit
import Derived.WalkSpells
import Derived.WalkLawsBesides
import Derived.Deep.Draws
import Derived.Deep.QuietTactic
import Derived.BigQuiet
import Derived.Laws.Externs
import Derived.Laws.CopyOwn
import Derived.Shelf.Abstract
import Derived.Deep.RegionLaw
import Derived.BigRegion
import Derived.Deep.RegionHeld3
import Derived.RangeFuncBox
import Derived.RangeFuncLeaves
import Derived.RangeFuncCalls
import Derived.RangeFuncRecord
import Derived.Below
import Derived.OwnWalkIn
import Derived.TacticsInMore
import Derived.LoopNIn
import Derived.LoopIn
import Derived.Sort.LoopGhostIn
import Derived.Deep.RegionWith
import Derived.Stop.RegionWithIn
import Derived.Laws.MathBits
import Derived.Maps.OwnSet
import Derived.StringKeys
import Derived.RegionTactic
import Derived.Orders
import Derived.OrdersIn
import Derived.RegionIn
import Ieee.Arith
import Derived.Laws.StructEq
import Derived.Lib.BufferWrite
import Derived.Lib.UnsafeStr
import Derived.Laws.MakeOwn
import Derived.Deep.CutBlock
import Derived.Deep.CutRange
import Derived.WalkMore
set_option linter.unusedVariables false
set_option linter.unusedSimpArgs false
namespace Go.Proofs.YtodegcobkngmlaaGreatDoor
open Go.RowKit Go.Shelf
theorem bdF_no {l : List (Int × Int)} {o : Nat} : ∀ f p, bdF l o f p = false → ∀ q, p ≤ q → q < p + f → bdB l o q = false
  | 0, p, _, q, h1, h2 => by omega
  | f + 1, p, h, q, h1, h2 => by
    rw [bdF] at h
    split at h
    · cases h
    · rename_i hb
      by_cases hq : q = p
      · subst hq; simpa using hb
      · exact bdF_no f (p + 1) h q (by omega) (by omega)
theorem bdF_none {l : List (Int × Int)} {o : Nat} : ∀ f p, (∀ q, p ≤ q → q < p + f → bdB l o q = false) → bdF l o f p = false
  | 0, p, _ => rfl
  | f + 1, p, h => by
    rw [bdF, if_neg (by rw [h p (by omega) (by omega)]; decide)]
    exact bdF_none f (p + 1) fun q h1 h2 => h q (by omega) (by omega)
theorem grF_got {l : List (Int × Int)} : ∀ f k c, grF l f k = (c, true) → k ≤ c ∧ c < k + f ∧ bdF l c l.length 0 = false
  | 0, k, c, h => by simp [grF] at h
  | f + 1, k, c, h => by
    rw [grF] at h
    split at h
    · obtain ⟨h1, h2, h3⟩ := grF_got f (k + 1) c h
      exact ⟨by omega, by omega, h3⟩
    · rename_i hb
      have := (Prod.mk.inj h).1
      subst this
      exact ⟨by omega, by omega, by simpa using hb⟩
theorem grF_has {l : List (Int × Int)} {o : Nat} (ho : bdF l o l.length 0 = false) : ∀ f k, k ≤ o → o < k + f → (grF l f k).2 = true
  | 0, k, h1, h2 => by omega
  | f + 1, k, h1, h2 => by
    rw [grF]
    split
    · rename_i hb
      have : k ≠ o := by rintro rfl; rw [ho] at hb; cases hb
      exact grF_has ho f (k + 1) (by omega) (by omega)
    · rfl
/-- The first of the greatest. -/
theorem first_max (s : List Int) : ∀ n, 1 ≤ n → ∃ o, o < n ∧ (∀ p, p < n → s.getD p 0 ≤ s.getD o 0) ∧ ∀ p, p < o → s.getD p 0 < s.getD o 0
  | 0, h => by omega
  | 1, _ => ⟨0, by omega, fun p hp => by rw [show p = 0 by omega]; exact Int.le_refl _, fun p hp => by omega⟩
  | n + 2, _ => by
    obtain ⟨o, h1, h2, h3⟩ := first_max s (n + 1) (by omega)
    by_cases h : s.getD o 0 < s.getD (n + 1) 0
    · refine ⟨n + 1, by omega, fun p hp => ?_, fun p hp => ?_⟩
      · by_cases hq : p = n + 1
        · subst hq; exact Int.le_refl _
        · have := h2 p (by omega); omega
      · have := h2 p (by omega); omega
    · refine ⟨o, by omega, fun p hp => ?_, h3⟩
      by_cases hq : p = n + 1
      · subst hq; omega
      · exact h2 p (by omega)
/-- Behind all trees one is certain. -/
theorem cr_all {base : List Int} {ts : List (Int × List Nd)} {xs : List Nat} {s : List Int} (S : ScE base ts xs s) (hn : 1 ≤ base.length) : (crF base ts (vX xs) ts.length).2 = true := by
  obtain ⟨o, h1, h2, h3⟩ := first_max s base.length hn
  refine grF_has (o := o) ?_ _ _ (by omega) (by omega)
  apply bdF_none
  intro q _ hq
  rw [beL_len] at hq
  unfold bdB
  rw [S.al o h1, S.al q (by omega)]
  have := h2 q (by omega)
  by_cases hqo : q < o
  · have := h3 q hqo
    simp only [Bool.or_eq_false_iff, Bool.and_eq_false_iff, decide_eq_false_iff_not]
    exact ⟨.inr (by omega), .inl (by omega)⟩
  · simp only [Bool.or_eq_false_iff, Bool.and_eq_false_iff, decide_eq_false_iff_not]
    exact ⟨.inl hqo, .inr (by omega)⟩
/-- What is certain is right. -/
theorem cr_right {base : List Int} {ts : List (Int × List Nd)} {xs : List Nat} {s : List Int} (S : ScE base ts xs s) {k : Nat} (hk : k ≤ ts.length) (h : (crF base ts (vX xs) k).2 = true) : (crF base ts (vX xs) k).1 < base.length ∧ ∀ o, o < base.length → s.getD o 0 ≤ s.getD (crF base ts (vX xs) k).1 0 ∧ (o < (crF base ts (vX xs) k).1 → s.getD o 0 < s.getD (crF base ts (vX xs) k).1 0) := by
  obtain ⟨⟨c, b⟩, hcb⟩ : ∃ cb, crF base ts (vX xs) k = cb := ⟨_, rfl⟩
  rw [hcb] at h ⊢
  simp only at h
  subst h
  obtain ⟨h1, h2, h3⟩ := grF_got _ _ _ hcb
  rw [beL_len] at h3
  refine ⟨by simp only; omega, fun o ho => ?_⟩
  have hb := bdF_no _ _ h3 o (by omega) (by omega)
  unfold bdB at hb
  simp only [Bool.or_eq_false_iff, Bool.and_eq_false_iff, decide_eq_false_iff_not] at hb
  have l1 := S.lo k hk c (by omega)
  have l2 := S.hi k hk o ho
  simp only
  by_cases hoc : o < c
  · rcases hb.1 with q | q
    · exact absurd hoc q
    · exact ⟨by omega, fun _ => by omega⟩
  · refine ⟨?_, fun q => absurd q hoc⟩
    by_cases he : o = c
    · subst he; exact Int.le_refl _
    · rcases hb.2 with q | q
      · omega
      · omega
/-- A limit is decided behind all trees; what is decided is right. -/
theorem dc_all {base : List Int} {ts : List (Int × List Nd)} {xs : List Nat} {s : List Int} (S : ScE base ts xs s) {o : Nat} (ho : o < base.length) (lim : Int) : dcB base ts (vX xs) o lim ts.length := by
  unfold dcB
  rw [S.al o ho]
  simp only
  omega
theorem dc_right {base : List Int} {ts : List (Int × List Nd)} {xs : List Nat} {s : List Int} (S : ScE base ts xs s) {o : Nat} (ho : o < base.length) {lim : Int} {k : Nat} (hk : k ≤ ts.length) (h : dcB base ts (vX xs) o lim k) : lim < ((beL base ts (vX xs) k).getD o (0, 0)).1 ↔ s.getD o 0 > lim := by
  have l1 := S.lo k hk o ho
  have l2 := S.hi k hk o ho
  unfold dcB at h
  constructor
  · intro q; omega
  · intro q
    rcases h with h | h
    · exact h
    · omega
end Go.Proofs.YtodegcobkngmlaaGreatDoor
set_option linter.unusedVariables false
set_option linter.unusedSimpArgs false
namespace Go.Proofs.YtodegcobkngmlaaGreatDoor
open Go.RowKit Go.Shelf
set_option maxRecDepth 100000 in
set_option maxHeartbeats 4000000 in
theorem rAbove_ok (nm : ByteArray) (fa : Option Addr) (fs : List ByteArray) (cf : Nat) (ba : Option Addr) (base : List Int) (cb : Nat) (ta : Option Addr) (ts : List (Int × List Nd)) (ct : Nat) (ax : Option Addr) (xs : List Nat) (cx o : Nat) (lim : Int) (w : World) (h : EnA w nm fa fs ba base ta ts) (hx : RdF w ax xs) (he : exE nm fs (base.length : Int) base ts xs.length = 0) (R : RtE (base.length : Int) base ts xs) (hxl : xs.length ≤ 17592186044416) (ho : o < base.length) (hV : ∀ k, k < ts.length → lfV (ts.getD k (0, [])).2 xs = vX xs (ts.getD k (0, [])).2) :
    Calls Tryz.prog 5 #[.agg (ev nm fa fs.length cf (base.length : Int) ba base.length cb ta ts.length ct), .slice ax xs.length cx, .int .i64 (o : Int), .int .i64 lim] w fun e w' => Keep w w' ∧ ∃ k, k ≤ ts.length ∧ e = .returned (.tuple #[.bool (decide (lim < ((beL base ts (vX xs) k).getD o (0, 0)).1)), .int .i64 (k : Int), .int .i64 0]) ∧ (dcB base ts (vX xs) o lim k ∨ k = ts.length) ∧ ∀ j, j < k → ¬ dcB base ts (vX xs) o lim j := by
  obtain ⟨w4, hw4, k04, s4, b0, b4⟩ := boxes2 w (ev nm fa fs.length cf (base.length : Int) ba base.length cb ta ts.length ct) #[.slice ax xs.length cx] 26 27
  have hX2 := rError_any nm fa fs cf (base.length : Int) ba base cb ta ts ct (w.heap.size + 1) 1 xs.length cx ax w4 (h.keep k04) (cells1 b4).1
  rw [he] at hX2
  have htl := R.tl
  have hBe : ∀ wx, Keep w4 wx → ∀ k : Nat, k ≤ ts.length → Calls Tryz.prog 13 #[.agg (ev nm fa fs.length cf (base.length : Int) ba base.length cb ta ts.length ct), .slice ax xs.length cx, .int .i64 (k : Int)] wx fun e w' => ∃ g c lo hi, e = .returned (.slice (some ⟨g, 0, none⟩) base.length c) ∧ (beL base ts (vX xs) k).getD o (0, 0) = (lo, hi) ∧ w'.cell? ⟨g, o * 2, none⟩ = some (.int .i64 lo) ∧ w'.cell? ⟨g, o * 2 + 1, none⟩ = some (.int .i64 hi) ∧ Keep wx w' := by
    intro wx kx k hk
    refine (rbehind_any nm fa fs cf ba base cb ta ts ct ax xs cx k wx ((h.keep k04).keep kx) ((hx.keep k04).keep kx) R hxl (by omega) hV).mono ?_
    rintro e w' ⟨v, rfl, hown, kk⟩
    obtain ⟨g, c, rfl, -, hr⟩ := hown.shape (by rw [beL_len]; exact R.n1)
    obtain ⟨⟨lo, hi⟩, hlh⟩ : ∃ ab, (beL base ts (vX xs) k).getD o (0, 0) = ab := ⟨_, rfl⟩
    obtain ⟨h1, h2⟩ := hr o lo hi (by rw [beL_len]; exact ho) hlh
    exact ⟨g, c, lo, hi, by rw [beL_len], hlh, h1, h2, kk⟩
  have c1 : decide ((o : Int) < 0) = false := decide_eq_false (by omega)
  have c2 : decide ((o : Int) ≥ (base.length : Int)) = false := decide_eq_false (by omega)
  have c2n : ¬ base.length ≤ o := by omega
  have hoc : (o : Int) < (base.length : Int) := by omega
  replace hBe : Hid _ := hBe
  obtain ⟨m, hm⟩ : ∃ m, xs.length = m := ⟨_, rfl⟩
  rw [hm] at hw4 hBe ⊢
  clear hm R hV he
  go_enter Tryz.func5, Tryz.ntmps5
  go_wp2_with (first | rw [hw4] | (go_at_call 12; refine hX2.mono ?_; rintro e w6 ⟨rfl, k6⟩; obtain ⟨y0, y1, y2, y3, y4⟩ := cells5 (k6.at b0)))
  clear y0 y1 y2 y3 y4 hX2 hw4 c1 c2 c2n
  go_loopw [12] (fun iv wr => ∃ k : Nat, iv = .int .i64 k ∧ k ≤ ts.length ∧ Hid (∀ j, j < k → ¬ dcB base ts (vX xs) o lim j) ∧ Keep w6 wr) (fun iv _ => ts.length - (intOf iv).toNat)
  case atStart => exact ⟨0, rfl, by omega, fun j hj => by omega, Keep.refl _⟩
  case round =>
    obtain ⟨k, rfl, hk, hp, kr⟩ := hrel
    have k4r := k6.trans kr
    obtain ⟨y0, y1, y2, y3, y4⟩ := cells5 (k4r.at b0)
    by_cases hkl : k < ts.length
    · have hkc : (k : Int) < (ts.length : Int) := by omega
      have HK : Hid (k < ts.length) := hkl
      have hB7 := hBe.out wr k4r k (by omega)
      clear hkl hk
      go_wp2_with fail
      refine hB7.mono ?_
      rintro e w7 ⟨g, c, lo, hi, rfl, hlh, x0, x1, k7⟩
      obtain ⟨wC, hwC, kC, tC, sC⟩ := boxed w7 #[.int .i64 0, .int .i64 0] 42
      obtain ⟨wD, hwD, tD, nD, zD, pD⟩ := put2 tC (.int .i64 lo) (.int .i64 hi)
      obtain ⟨d0, d1, d2, d3⟩ := cells2 tC
      obtain ⟨e0, e1, -, -⟩ := cells2 tD
      have kD : Keep w6 wD := pD w6 ((kr.trans k7).trans kC) (by have := kr.le; have := k7.le; omega)
      have hD : Hid (dcB base ts (vX xs) o lim k ↔ (lim < lo ∨ hi ≤ lim)) := by
        show _ ↔ _
        unfold dcB
        rw [hlh]
      have HLH : Hid ((beL base ts (vX xs) k).getD o (0, 0) = (lo, hi)) := hlh
      clear hlh y0 y1 y2 y3 y4 hB7
      by_cases h1 : lo > lim
      · have c1 : decide (lo > lim) = true := decide_eq_true h1
        have H1 : Hid (lim < lo) := h1
        clear h1
        go_wp2_with fail
        go_ret3
        refine ⟨(k04.trans k6).trans kD, k, by have := HK.out; omega, ?_, .inl (hD.out.2 (.inl H1.out)), hp.out⟩
        rw [HLH.out, decide_eq_true H1.out]
        rfl
      · have c1 : decide (lo > lim) = false := decide_eq_false h1
        by_cases h2 : hi ≤ lim
        · have c2 : decide (hi ≤ lim) = true := decide_eq_true h2
          have H1 : Hid (¬ lim < lo) := h1
          have H2 : Hid (hi ≤ lim) := h2
          clear h1 h2
          go_wp2_with fail
          go_ret3
          refine ⟨(k04.trans k6).trans kD, k, by have := HK.out; omega, ?_, .inl (hD.out.2 (.inr H2.out)), hp.out⟩
          rw [HLH.out, decide_eq_false (show ¬ lim < lo by have := H1.out; omega)]
          rfl
        · have c2 : decide (hi ≤ lim) = false := decide_eq_false h2
          have H1 : Hid (¬ dcB base ts (vX xs) o lim k) := by
            intro q
            rcases hD.out.1 q with q | q
            · exact h1 q
            · exact h2 q
          clear h1 h2
          go_wp2_with fail
          go_roundw
          case rel =>
            refine ⟨k + 1, by go_num, by have := HK.out; omega, ?_, kD⟩
            intro j hj
            by_cases hjk : j = k
            · subst hjk; exact H1.out
            · exact hp.out j (by omega)
          case measure => have := HK.out; simp [intOf]; omega
    · have hkc : ¬ (k : Int) < (ts.length : Int) := by omega
      obtain rfl : k = ts.length := by omega
      have hB7 := hBe.out wr k4r ts.length (Nat.le_refl _)
      go_wp2_with fail
      refine hB7.mono ?_
      rintro e w7 ⟨g, c, lo, hi, rfl, hlh, x0, x1, k7⟩
      obtain ⟨wC, hwC, kC, tC, sC⟩ := boxed w7 #[.int .i64 0, .int .i64 0] 42
      obtain ⟨wD, hwD, tD, nD, zD, pD⟩ := put2 tC (.int .i64 lo) (.int .i64 hi)
      obtain ⟨d0, d1, d2, d3⟩ := cells2 tC
      obtain ⟨e0, e1, -, -⟩ := cells2 tD
      have kD : Keep w6 wD := pD w6 ((kr.trans k7).trans kC) (by have := kr.le; have := k7.le; omega)
      have HLH : Hid ((beL base ts (vX xs) ts.length).getD o (0, 0) = (lo, hi)) := hlh
      obtain ⟨-, -, -, -, p4⟩ := cells5 ((k6.trans kD).at b0)
      clear hlh y0 y1 y2 y3 y4 hB7
      go_wp2_with fail
      go_region
      all_goals
        go_wp2_with fail
        go_ret3
        refine ⟨(k04.trans k6).trans kD.drew, ts.length, Nat.le_refl _, ?_, .inr rfl, hp.out⟩
        rw [HLH.out]
        rfl
end Go.Proofs.YtodegcobkngmlaaGreatDoor
set_option linter.unusedVariables false
set_option linter.unusedSimpArgs false
namespace Go.Proofs.YtodegcobkngmlaaGreatDoor
open Go.RowKit Go.Shelf
set_option maxRecDepth 100000 in
set_option maxHeartbeats 2000000 in
theorem rClass_err (nm : ByteArray) (fa : Option Addr) (fs : List ByteArray) (cf : Nat) (N : Int) (ba : Option Addr) (base : List Int) (cb : Nat) (ta : Option Addr) (ts : List (Int × List Nd)) (ct : Nat) (ax : Option Addr) (xs : List Nat) (cx : Nat) (w : World) (h : EnA w nm fa fs ba base ta ts) (he : exE nm fs N base ts xs.length ≠ 0) :
    Calls Tryz.prog 7 #[.agg (ev nm fa fs.length cf N ba base.length cb ta ts.length ct), .slice ax xs.length cx] w fun e w' => e = .returned (.tuple #[.int .i64 0, .int .i64 0, .int .i64 (exE nm fs N base ts xs.length)]) ∧ Keep w w' := by
  obtain ⟨w4, hw4, k04, s4, b0, b4⟩ := boxes2 w (ev nm fa fs.length cf N ba base.length cb ta ts.length ct) #[.slice ax xs.length cx] 26 27
  have hX2 := rError_any nm fa fs cf N ba base cb ta ts ct (w.heap.size + 1) 1 xs.length cx ax w4 (h.keep k04) (cells1 b4).1
  obtain ⟨E, hE⟩ : ∃ E, exE nm fs N base ts xs.length = E := ⟨_, rfl⟩
  rw [hE] at hX2 he ⊢
  clear hE
  have hne : (E != 0) = true := by simpa using he
  clear he
  obtain ⟨m, hm⟩ : ∃ m, xs.length = m := ⟨_, rfl⟩
  rw [hm] at hw4 ⊢
  clear hm
  go_enter Tryz.func7, Tryz.ntmps7
  go_wp2_with (first | rw [hw4] | (go_at_call 12; refine hX2.mono ?_; rintro e w6 ⟨rfl, k6⟩))
  go_ret3
  exact ⟨rfl, k04.trans k6⟩
set_option maxRecDepth 100000 in
set_option maxHeartbeats 4000000 in
theorem rClass_ok (nm : ByteArray) (fa : Option Addr) (fs : List ByteArray) (cf : Nat) (ba : Option Addr) (base : List Int) (cb : Nat) (ta : Option Addr) (ts : List (Int × List Nd)) (ct : Nat) (ax : Option Addr) (xs : List Nat) (cx : Nat) (w : World) (h : EnA w nm fa fs ba base ta ts) (hx : RdF w ax xs) (he : exE nm fs (base.length : Int) base ts xs.length = 0) (R : RtE (base.length : Int) base ts xs) (hxl : xs.length ≤ 17592186044416) (hC : (crF base ts (vX xs) ts.length).2 = true) (hV : ∀ k, k < ts.length → lfV (ts.getD k (0, [])).2 xs = vX xs (ts.getD k (0, [])).2) :
    Calls Tryz.prog 7 #[.agg (ev nm fa fs.length cf (base.length : Int) ba base.length cb ta ts.length ct), .slice ax xs.length cx] w fun e w' => Keep w w' ∧ ∃ k, k ≤ ts.length ∧ e = .returned (.tuple #[.int .i64 (((crF base ts (vX xs) k).1 : Nat) : Int), .int .i64 (k : Int), .int .i64 0]) ∧ (crF base ts (vX xs) k).2 = true ∧ ∀ j, j < k → (crF base ts (vX xs) j).2 = false := by
  obtain ⟨w4, hw4, k04, s4, b0, b4⟩ := boxes2 w (ev nm fa fs.length cf (base.length : Int) ba base.length cb ta ts.length ct) #[.slice ax xs.length cx] 26 27
  have hX2 := rError_any nm fa fs cf (base.length : Int) ba base cb ta ts ct (w.heap.size + 1) 1 xs.length cx ax w4 (h.keep k04) (cells1 b4).1
  rw [he] at hX2
  have htl := R.tl
  have hnl := R.nl
  have hBe : ∀ wx, Keep w4 wx → ∀ k : Nat, k ≤ ts.length → Calls Tryz.prog 13 #[.agg (ev nm fa fs.length cf (base.length : Int) ba base.length cb ta ts.length ct), .slice ax xs.length cx, .int .i64 (k : Int)] wx fun e w' => ∃ g c, e = .returned (.slice (some ⟨g, 0, none⟩) base.length c) ∧ RdVB w' g (beL base ts (vX xs) k) ∧ Keep wx w' := by
    intro wx kx k hk
    refine (rbehind_any nm fa fs cf ba base cb ta ts ct ax xs cx k wx ((h.keep k04).keep kx) ((hx.keep k04).keep kx) R hxl (by omega) hV).mono ?_
    rintro e w' ⟨v, rfl, hown, kk⟩
    obtain ⟨g, c, rfl, -, hr⟩ := hown.shape (by rw [beL_len]; exact R.n1)
    exact ⟨g, c, by rw [beL_len], hr, kk⟩
  have hCe : ∀ wx g c k, RdVB wx g (beL base ts (vX xs) k) → Calls Tryz.prog 15 #[.slice (some ⟨g, 0, none⟩) base.length c] wx fun e w' => e = .returned (.int .i64 (ceR (crF base ts (vX xs) k))) ∧ Keep wx w' := by
    intro wx g c k hr
    have := rcertain_any g c (beL base ts (vX xs) k) wx (by rw [beL_len]; exact hnl) hr
    rw [beL_len] at this
    exact this
  replace hBe : Hid _ := hBe
  replace hCe : Hid _ := hCe
  replace hC : Hid _ := hC
  obtain ⟨m, hm⟩ : ∃ m, xs.length = m := ⟨_, rfl⟩
  rw [hm] at hw4 hBe ⊢
  clear hm R hV he
  go_enter Tryz.func7, Tryz.ntmps7
  go_wp2_with (first | rw [hw4] | (go_at_call 12; refine hX2.mono ?_; rintro e w6 ⟨rfl, k6⟩))
  clear hX2 hw4
  go_loopw [8] (fun iv wr => ∃ k : Nat, iv = .int .i64 k ∧ k ≤ ts.length ∧ Hid (∀ j, j < k → (crF base ts (vX xs) j).2 = false) ∧ Keep w6 wr) (fun iv _ => ts.length - (intOf iv).toNat)
  case atStart => exact ⟨0, rfl, by omega, fun j hj => by omega, Keep.refl _⟩
  case round =>
    obtain ⟨k, rfl, hk, hp, kr⟩ := hrel
    have k4r := k6.trans kr
    obtain ⟨y0, y1, y2, y3, y4⟩ := cells5 (k4r.at b0)
    have HK : Hid (k ≤ ts.length) := hk
    have hB7 := hBe.out wr k4r k hk
    have hk9 : k ≤ 65536 := by omega
    clear hk
    go_wp2_with fail
    refine hB7.mono ?_
    rintro e w7 ⟨g, c, rfl, hr, k7⟩
    have hC7 := hCe.out w7 g c k hr
    clear hB7 hr y0 y1 y2 y3 y4
    obtain ⟨⟨cv, cb'⟩, hcv⟩ : ∃ r, crF base ts (vX xs) k = r := ⟨_, rfl⟩
    have HCV : Hid (crF base ts (vX xs) k = (cv, cb')) := hcv
    rw [hcv] at hC7
    clear hcv
    cases cb' with
    | true =>
      have hC8 : Calls Tryz.prog 15 #[.slice (some ⟨g, 0, none⟩) base.length c] w7 fun e w' => e = .returned (.int .i64 ((cv : Nat) : Int)) ∧ Keep w7 w' := hC7
      have c1 : decide (((cv : Nat) : Int) < 0) = false := decide_eq_false (by omega)
      clear hC7
      have tok1 : True := trivial
      go_wp2_with (go_at_call 15; refine hC8.mono ?_; rintro e w8 ⟨rfl, k8⟩
                   have k48 := k4r.trans (k7.trans k8)
                   obtain ⟨y0, y1, y2, y3, y4⟩ := cells5 (k48.at b0))
      refine (hBe.out w8 k48 k HK.out).mono ?_
      rintro e w9 ⟨g9, c9, rfl, hr9, k9⟩
      have hC9 := hCe.out w9 g9 c9 k hr9
      rw [HCV.out] at hC9
      replace hC9 : Calls Tryz.prog 15 #[.slice (some ⟨g9, 0, none⟩) base.length c9] w9 fun e w' => e = .returned (.int .i64 ((cv : Nat) : Int)) ∧ Keep w9 w' := hC9
      clear hr9 hC8
      go_wp2_with (go_at_call 15; refine hC9.mono ?_; rintro e wA ⟨rfl, kA⟩)
      go_ret3
      refine ⟨k04.trans (k48.trans (k9.trans kA)), k, HK.out, ?_, by rw [HCV.out], hp.out⟩
      rw [HCV.out]
      rfl
    | false =>
      have hC8 : Calls Tryz.prog 15 #[.slice (some ⟨g, 0, none⟩) base.length c] w7 fun e w' => e = .returned (.int .i64 (-1)) ∧ Keep w7 w' := hC7
      have HL : Hid (k < ts.length) := by
        show _ < _
        have h1 := HK.out
        by_cases hq : k = ts.length
        · have h2 := hC.out
          rw [← hq, HCV.out] at h2
          cases h2
        · omega
      clear hC7
      go_wp2_with (go_at_call 15; refine hC8.mono ?_; rintro e w8 ⟨rfl, k8⟩)
      go_roundw
      case rel =>
        refine ⟨k + 1, by go_num, by have := HL.out; omega, ?_, kr.trans (k7.trans k8)⟩
        intro j hj
        by_cases hjk : j = k
        · subst hjk; rw [HCV.out]
        · exact hp.out j (by omega)
      case measure => have := HL.out; simp [intOf]; omega
end Go.Proofs.YtodegcobkngmlaaGreatDoor
