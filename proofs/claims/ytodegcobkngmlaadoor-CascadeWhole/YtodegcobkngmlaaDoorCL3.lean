import Derived.Test.YtodegcobkngmlaaDoorCL2A
import Derived.Test.YtodegcobkngmlaaDoorCS18
set_option linter.unusedVariables false
set_option linter.unusedSimpArgs false
namespace Go.Proofs.YtodegcobkngmlaaDoor
open Go.RowKit Go.Shelf
theorem bdF_no {l : List (Int × Int)} {o : Nat} : ∀ f p, bdF l o f p = false → ∀ q, p ≤ q → q < p + f → bdB l o q = false
  | 0, p, _, q, h1, h2 => by omega
  | f + 1, p, h, q, h1, h2 => by
    rw [bdF] at h
    split at h
    · cases h
    · rename_i hb
      by_cases hq : q = p
      · subst hq; simpa using hb
      · exact bdF_no f (p + 1) h q (by omega) (by omega)
theorem bdF_none {l : List (Int × Int)} {o : Nat} : ∀ f p, (∀ q, p ≤ q → q < p + f → bdB l o q = false) → bdF l o f p = false
  | 0, p, _ => rfl
  | f + 1, p, h => by
    rw [bdF, if_neg (by rw [h p (by omega) (by omega)]; decide)]
    exact bdF_none f (p + 1) fun q h1 h2 => h q (by omega) (by omega)
theorem grF_got {l : List (Int × Int)} : ∀ f k c, grF l f k = (c, true) → k ≤ c ∧ c < k + f ∧ bdF l c l.length 0 = false
  | 0, k, c, h => by simp [grF] at h
  | f + 1, k, c, h => by
    rw [grF] at h
    split at h
    · obtain ⟨h1, h2, h3⟩ := grF_got f (k + 1) c h
      exact ⟨by omega, by omega, h3⟩
    · rename_i hb
      have := (Prod.mk.inj h).1
      subst this
      exact ⟨by omega, by omega, by simpa using hb⟩
theorem grF_has {l : List (Int × Int)} {o : Nat} (ho : bdF l o l.length 0 = false) : ∀ f k, k ≤ o → o < k + f → (grF l f k).2 = true
  | 0, k, h1, h2 => by omega
  | f + 1, k, h1, h2 => by
    rw [grF]
    split
    · rename_i hb
      have : k ≠ o := by rintro rfl; rw [ho] at hb; cases hb
      exact grF_has ho f (k + 1) (by omega) (by omega)
    · rfl
/-- The first of the greatest. -/
theorem first_max (s : List Int) : ∀ n, 1 ≤ n → ∃ o, o < n ∧ (∀ p, p < n → s.getD p 0 ≤ s.getD o 0) ∧ ∀ p, p < o → s.getD p 0 < s.getD o 0
  | 0, h => by omega
  | 1, _ => ⟨0, by omega, fun p hp => by rw [show p = 0 by omega]; exact Int.le_refl _, fun p hp => by omega⟩
  | n + 2, _ => by
    obtain ⟨o, h1, h2, h3⟩ := first_max s (n + 1) (by omega)
    by_cases h : s.getD o 0 < s.getD (n + 1) 0
    · refine ⟨n + 1, by omega, fun p hp => ?_, fun p hp => ?_⟩
      · by_cases hq : p = n + 1
        · subst hq; exact Int.le_refl _
        · have := h2 p (by omega); omega
      · have := h2 p (by omega); omega
    · refine ⟨o, by omega, fun p hp => ?_, h3⟩
      by_cases hq : p = n + 1
      · subst hq; omega
      · exact h2 p (by omega)
/-- Behind all trees one is certain. -/
theorem cr_all {base : List Int} {ts : List (Int × List Nd)} {xs : List Nat} {s : List Int} (S : ScE base ts xs s) (hn : 1 ≤ base.length) : (crF base ts (vX xs) ts.length).2 = true := by
  obtain ⟨o, h1, h2, h3⟩ := first_max s base.length hn
  refine grF_has (o := o) ?_ _ _ (by omega) (by omega)
  apply bdF_none
  intro q _ hq
  rw [beL_len] at hq
  unfold bdB
  rw [S.al o h1, S.al q (by omega)]
  have := h2 q (by omega)
  by_cases hqo : q < o
  · have := h3 q hqo
    simp only [Bool.or_eq_false_iff, Bool.and_eq_false_iff, decide_eq_false_iff_not]
    exact ⟨.inr (by omega), .inl (by omega)⟩
  · simp only [Bool.or_eq_false_iff, Bool.and_eq_false_iff, decide_eq_false_iff_not]
    exact ⟨.inl hqo, .inr (by omega)⟩
/-- What is certain is right. -/
theorem cr_right {base : List Int} {ts : List (Int × List Nd)} {xs : List Nat} {s : List Int} (S : ScE base ts xs s) {k : Nat} (hk : k ≤ ts.length) (h : (crF base ts (vX xs) k).2 = true) : (crF base ts (vX xs) k).1 < base.length ∧ ∀ o, o < base.length → s.getD o 0 ≤ s.getD (crF base ts (vX xs) k).1 0 ∧ (o < (crF base ts (vX xs) k).1 → s.getD o 0 < s.getD (crF base ts (vX xs) k).1 0) := by
  obtain ⟨⟨c, b⟩, hcb⟩ : ∃ cb, crF base ts (vX xs) k = cb := ⟨_, rfl⟩
  rw [hcb] at h ⊢
  simp only at h
  subst h
  obtain ⟨h1, h2, h3⟩ := grF_got _ _ _ hcb
  rw [beL_len] at h3
  refine ⟨by simp only; omega, fun o ho => ?_⟩
  have hb := bdF_no _ _ h3 o (by omega) (by omega)
  unfold bdB at hb
  simp only [Bool.or_eq_false_iff, Bool.and_eq_false_iff, decide_eq_false_iff_not] at hb
  have l1 := S.lo k hk c (by omega)
  have l2 := S.hi k hk o ho
  simp only
  by_cases hoc : o < c
  · rcases hb.1 with q | q
    · exact absurd hoc q
    · exact ⟨by omega, fun _ => by omega⟩
  · refine ⟨?_, fun q => absurd q hoc⟩
    by_cases he : o = c
    · subst he; exact Int.le_refl _
    · rcases hb.2 with q | q
      · omega
      · omega
/-- A limit is decided behind all trees; what is decided is right. -/
theorem dc_all {base : List Int} {ts : List (Int × List Nd)} {xs : List Nat} {s : List Int} (S : ScE base ts xs s) {o : Nat} (ho : o < base.length) (lim : Int) : dcB base ts (vX xs) o lim ts.length := by
  unfold dcB
  rw [S.al o ho]
  simp only
  omega
theorem dc_right {base : List Int} {ts : List (Int × List Nd)} {xs : List Nat} {s : List Int} (S : ScE base ts xs s) {o : Nat} (ho : o < base.length) {lim : Int} {k : Nat} (hk : k ≤ ts.length) (h : dcB base ts (vX xs) o lim k) : lim < ((beL base ts (vX xs) k).getD o (0, 0)).1 ↔ s.getD o 0 > lim := by
  have l1 := S.lo k hk o ho
  have l2 := S.hi k hk o ho
  unfold dcB at h
  constructor
  · intro q; omega
  · intro q
    rcases h with h | h
    · exact h
    · omega
end Go.Proofs.YtodegcobkngmlaaDoor
set_option linter.unusedVariables false
set_option linter.unusedSimpArgs false
namespace Go.Proofs.YtodegcobkngmlaaDoor
open Go.RowKit Go.Shelf
set_option maxRecDepth 100000 in
set_option maxHeartbeats 4000000 in
theorem whole_err (nm : ByteArray) (fa : Option Addr) (fs : List ByteArray) (cf : Nat) (N : Int) (ba : Option Addr) (base : List Int) (cb : Nat) (ta : Option Addr) (ts : List (Int × List Nd)) (ct : Nat) (ax : Option Addr) (xs : List Nat) (cx : Nat) (o lim : Int) (w : World) (hA : EnA w nm fa fs ba base ta ts) (hcb : base.length ≤ cb) (hx : RdF w ax xs) (hxl : xs.length ≤ 17592186044416) (he : exE nm fs N base ts xs.length ≠ 0) :
    Calls Tryd.prog 4 #[.agg (ev nm fa fs.length cf N ba base.length cb ta ts.length ct), .slice ax xs.length cx, .int .i64 o, .int .i64 lim] w fun e w' => e = .returned (.bool true) ∧ Keep w w' := by
  obtain ⟨w1, hw1, k1, t1, s1⟩ := boxed w (ev nm fa fs.length cf N ba base.length cb ta ts.length ct) 26
  have htl := hA.er.tl
  have hbl := hA.er.bl
  have hB := begins_any w1 (hA.tb.keep k1)
  have hV := fun wx (q : Keep w1 wx) => Valid_any nm fa fs cf N ba base cb ta ts ct wx ((hA.keep k1).keep q)
  have hS := fun wx (q : Keep w1 wx) => Score_any nm fa fs.length cf N ba base cb ta ts ct ax xs cx wx ((hA.er.rb.keep k1).keep q) hcb hA.er.bl ((hA.er.rt.keep k1).keep q) (by omega) ((hx.keep k1).keep q) hxl (by have := hA.fl; omega)
  unfold ens at hS
  by_cases hc : (chB nm fs N base ts).1 = 0
  · have hne : xs.length ≠ fs.length := by
      intro q
      apply he
      unfold exE
      rw [if_pos hc, if_pos q]
    have hsc := score_ok (xs := xs) hc
    rw [if_pos hne] at hsc
    rw [hsc] at hS
    rw [hc] at hV
    generalize (scS fs.length N base ts xs).1 = sl at hS
    clear hsc hne hc he
    replace hV : ∀ wx, Keep w1 wx → Calls Tryd.prog 7 #[.agg (ev nm fa fs.length cf N ba base.length cb ta ts.length ct)] wx (fun e w' => e = .returned (.bool true) ∧ Keep wx w') := hV
    go_enter Tryd.func4, Tryd.ntmps4
    go_wp2_with (first
      | rw [hw1]
      | (go_at_call 5; refine hB.mono ?_; rintro e w2 ⟨rfl, k2⟩; obtain ⟨y0, y1, y2, y3, y4⟩ := cells5 (k2.at t1))
      | (go_at_call 6; refine (hS w2 k2).mono ?_; rintro e w3 ⟨v, rfl, -, k3⟩; have k13 := k2.trans k3; clear y0 y1 y2 y3 y4; obtain ⟨y0, y1, y2, y3, y4⟩ := cells5 (k13.at t1))
      | (go_at_call 7; refine (hV w3 k13).mono ?_; rintro e w4 ⟨rfl, k4⟩; have k14 := k13.trans k4))
    go_ret
    exact ⟨rfl, k1.trans k14⟩
  · have hcf : ((chB nm fs N base ts).1 == 0) = false := by simpa using hc
    rw [hcf] at hV
    generalize scS fs.length N base ts xs = sl at hS
    clear hc hcf he
    go_enter Tryd.func4, Tryd.ntmps4
    go_wp2_with (first
      | rw [hw1]
      | (go_at_call 5; refine hB.mono ?_; rintro e w2 ⟨rfl, k2⟩; obtain ⟨y0, y1, y2, y3, y4⟩ := cells5 (k2.at t1))
      | (go_at_call 6; refine (hS w2 k2).mono ?_; rintro e w3 ⟨v, rfl, -, k3⟩; have k13 := k2.trans k3; clear y0 y1 y2 y3 y4; obtain ⟨y0, y1, y2, y3, y4⟩ := cells5 (k13.at t1))
      | (go_at_call 7; refine (hV w3 k13).mono ?_; rintro e w4 ⟨rfl, k4⟩; have k14 := k13.trans k4))
    go_ret
    exact ⟨rfl, k1.trans k14⟩
end Go.Proofs.YtodegcobkngmlaaDoor
