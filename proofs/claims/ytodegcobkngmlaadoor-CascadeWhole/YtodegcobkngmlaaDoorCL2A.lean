import Derived.Test.YtodegcobkngmlaaDoorCS14
import Derived.Test.YtodegcobkngmlaaDoorCS20
import Derived.Test.YtodegcobkngmlaaDoorYX4
import Derived.Deep.QuietTactic
import Derived.Test.YtodegcobkngmlaaDoorCS10
set_option linter.unusedVariables false
set_option linter.unusedSimpArgs false
namespace Go.Proofs.YtodegcobkngmlaaDoor
open Go.RowKit Go.Shelf
/-- What the first k trees say, added. -/
def psm (xs : List Nat) (ts : List (Int × List Nd)) (o : Int) : Nat → Int
  | 0 => 0
  | k + 1 => psm xs ts o k + (if (ts.getD k (0, [])).1 = o then vX xs (ts.getD k (0, [])).2 else 0)
theorem bo_psm (xs : List Nat) (ts : List (Int × List Nd)) (o : Int) : ∀ k, k ≤ ts.length → boS true (vX xs) o k ts = psm xs ts o k + boS true (vX xs) o 0 (ts.drop k)
  | 0, _ => by simp [psm]
  | k + 1, hk => by
    have hk' : k < ts.length := by omega
    rw [boS_step true (vX xs) o ts k hk', bo_psm xs ts o k (by omega), psm, List.drop_eq_getElem_cons hk', boS]
    have e : ts[k] = ts.getD k (0, []) := by simp [List.getD, hk']
    rw [e]
    simp only [if_true]
    split <;> omega
theorem bo_all (xs : List Nat) (ts : List (Int × List Nd)) (o : Int) (lo : Bool) : boS lo (vX xs) o ts.length ts = psm xs ts o ts.length := by
  rw [boS_all lo (vX xs) o ts ts.length (Nat.le_refl _), bo_psm xs ts o ts.length (Nat.le_refl _), List.drop_length, boS]
  omega
theorem sk_psm {xs : List Nat} {base : List Int} {ts : List (Int × List Nd)} {N : Int} (hN : (base.length : Int) = N) (ht : ∀ i, i < ts.length → (trB (ts.getD i (0, [])).1 N (xs.length : Int) (ts.getD i (0, [])).2 (i : Int)).1 = 0) (ho : ∀ o, o < base.length → rm base ts o < 4611686018427387904) : ∀ k, k ≤ ts.length → ∀ o, o < base.length → (sk xs base ts k).getD o 0 = base.getD o 0 + psm xs ts (o : Int) k
  | 0, _, o, _ => by simp [sk, psm]
  | k + 1, hk, o, hob => by
    have ih := sk_psm hN ht ho k (by omega)
    have h1 := ht k (by omega)
    obtain ⟨r1, r2, r3, r4⟩ := trB_ok h1
    obtain ⟨-, v1, -⟩ := lfV_eq h1
    have v2 := lf_le (xs := xs) r3
    rw [← v1] at v2
    obtain ⟨q, hq⟩ : ∃ q : Nat, (ts.getD k (0, [])).1 = (q : Int) := ⟨(ts.getD k (0, [])).1.toNat, by omega⟩
    have hqb : q < base.length := by omega
    have i1 := sk_le hN ht ho k (by omega) q hqb
    have p1 := pk_le base ts q (k + 1) hk
    rw [pk, if_pos hq] at p1
    have p2 := ho q hqb
    rw [sk, hq]
    have e : (q : Int).toNat = q := by omega
    rw [e]
    have hwr : wrap64 ((sk xs base ts k).getD q 0 + lfV (ts.getD k (0, [])).2 xs) = (sk xs base ts k).getD q 0 + lfV (ts.getD k (0, [])).2 xs := IntWalk.wrap64_in _ (by omega)
    rw [hwr, psm, hq]
    by_cases hoq : o = q
    · subst hoq
      rw [if_pos rfl, show ((sk xs base ts k).set o ((sk xs base ts k).getD o 0 + lfV (ts.getD k (0, [])).2 xs)).getD o 0 = (sk xs base ts k).getD o 0 + lfV (ts.getD k (0, [])).2 xs from by simp [List.getD, sk_len, hob], ih o hob, v1]
      unfold vX
      omega
    · rw [if_neg (by omega), show ((sk xs base ts k).set q ((sk xs base ts k).getD q 0 + lfV (ts.getD k (0, [])).2 xs)).getD o 0 = (sk xs base ts k).getD o 0 from by simp [List.getD, List.getElem?_set, Ne.symm hoq], ih o hob]
      omega
/-- The score and the spans of a right ensemble. -/
structure ScE (base : List Int) (ts : List (Int × List Nd)) (xs : List Nat) (s : List Int) : Prop where
  len : s.length = base.length
  lo : ∀ k, k ≤ ts.length → ∀ o, o < base.length → ((beL base ts (vX xs) k).getD o (0, 0)).1 ≤ s.getD o 0
  hi : ∀ k, k ≤ ts.length → ∀ o, o < base.length → s.getD o 0 ≤ ((beL base ts (vX xs) k).getD o (0, 0)).2
  rl : ∀ k, k < ts.length → ∀ o, o < base.length → ((beL base ts (vX xs) k).getD o (0, 0)).1 ≤ ((beL base ts (vX xs) (k + 1)).getD o (0, 0)).1
  rh : ∀ k, k < ts.length → ∀ o, o < base.length → ((beL base ts (vX xs) (k + 1)).getD o (0, 0)).2 ≤ ((beL base ts (vX xs) k).getD o (0, 0)).2
  al : ∀ o, o < base.length → (beL base ts (vX xs) ts.length).getD o (0, 0) = (s.getD o 0, s.getD o 0)
theorem up_to {f : Nat → Int} {n : Nat} (h : ∀ k, k < n → f k ≤ f (k + 1)) : ∀ d k, k + d = n → f k ≤ f n
  | 0, k, e => by rw [show k = n by omega]; exact Int.le_refl _
  | d + 1, k, e => Int.le_trans (h k (by omega)) (up_to h d (k + 1) (by omega))
theorem scE {nm : ByteArray} {fs : List ByteArray} {N : Int} {base : List Int} {ts : List (Int × List Nd)} {xs : List Nat} (h : (chB nm fs N base ts).1 = 0) (hx : xs.length = fs.length) : (scS fs.length N base ts xs).2 = 0 ∧ ScE base ts xs (scS fs.length N base ts xs).1 := by
  have R := rtE h hx
  obtain ⟨-, ⟨h1, h2⟩, h3, h4, -, h5, h6⟩ := chB_ok h
  rw [← hx] at h5
  have hs : scS fs.length N base ts xs = (sk xs base ts ts.length, 0) := by
    unfold scS
    rw [if_neg (by omega), if_neg (by omega)]
    exact scF_sk h5 ts.length 0 (by omega)
  rw [hs]
  have hal : ∀ o, o < base.length → (beL base ts (vX xs) ts.length).getD o (0, 0) = ((sk xs base ts ts.length).getD o 0, (sk xs base ts ts.length).getD o 0) := by
    intro o ho
    rw [beL_at base ts (vX xs) ts.length o ho, bo_all, bo_all, sk_psm h3 h5 R.rm ts.length (Nat.le_refl _) o ho]
  have rl : ∀ o, o < base.length → ∀ k, k < ts.length → ((beL base ts (vX xs) k).getD o (0, 0)).1 ≤ ((beL base ts (vX xs) (k + 1)).getD o (0, 0)).1 := by
    intro o ho k hk
    rw [beL_at base ts (vX xs) k o ho, beL_at base ts (vX xs) (k + 1) o ho]
    have := (boS_rise (vX xs) (o : Int) ts R.sv k hk).1
    simp only
    omega
  have rh : ∀ o, o < base.length → ∀ k, k < ts.length → - ((beL base ts (vX xs) k).getD o (0, 0)).2 ≤ - ((beL base ts (vX xs) (k + 1)).getD o (0, 0)).2 := by
    intro o ho k hk
    rw [beL_at base ts (vX xs) k o ho, beL_at base ts (vX xs) (k + 1) o ho]
    have := (boS_rise (vX xs) (o : Int) ts R.sv k hk).2
    simp only
    omega
  refine ⟨rfl, sk_len xs base ts ts.length, ?_, ?_, fun k hk o ho => rl o ho k hk, fun k hk o ho => by have := rh o ho k hk; omega, hal⟩
  · intro k hk o ho
    have := up_to (f := fun k => ((beL base ts (vX xs) k).getD o (0, 0)).1) (rl o ho) (ts.length - k) k (by omega)
    rw [hal o ho] at this
    exact this
  · intro k hk o ho
    have := up_to (f := fun k => - ((beL base ts (vX xs) k).getD o (0, 0)).2) (rh o ho) (ts.length - k) k (by omega)
    rw [hal o ho] at this
    simp only at this ⊢
    omega
end Go.Proofs.YtodegcobkngmlaaDoor
set_option linter.unusedVariables false
set_option linter.unusedSimpArgs false
namespace Go.Proofs.YtodegcobkngmlaaDoor
open Go.RowKit Go.Shelf
set_option maxRecDepth 100000 in
set_option maxHeartbeats 4000000 in
theorem holds_err (nm : ByteArray) (fa : Option Addr) (fs : List ByteArray) (cf : Nat) (N : Int) (ba : Option Addr) (base : List Int) (cb : Nat) (ta : Option Addr) (ts : List (Int × List Nd)) (ct : Nat) (ax : Option Addr) (xs : List Nat) (cx : Nat) (w : World) (hA : EnA w nm fa fs ba base ta ts) (hcb : base.length ≤ cb) (hx : RdF w ax xs) (hxl : xs.length ≤ 17592186044416) (he : exE nm fs N base ts xs.length ≠ 0) :
    Calls Tryd.prog 3 #[.agg (ev nm fa fs.length cf N ba base.length cb ta ts.length ct), .slice ax xs.length cx] w fun e w' => e = .returned (.bool true) ∧ Keep w w' := by
  obtain ⟨w1, hw1, k1, t1, s1⟩ := boxed w (ev nm fa fs.length cf N ba base.length cb ta ts.length ct) 26
  have htl := hA.er.tl
  have hbl := hA.er.bl
  have hB := begins_any w1 (hA.tb.keep k1)
  have hV := fun wx (q : Keep w1 wx) => Valid_any nm fa fs cf N ba base cb ta ts ct wx ((hA.keep k1).keep q)
  have hS := fun wx (q : Keep w1 wx) => Score_any nm fa fs.length cf N ba base cb ta ts ct ax xs cx wx ((hA.er.rb.keep k1).keep q) hcb hA.er.bl ((hA.er.rt.keep k1).keep q) (by omega) ((hx.keep k1).keep q) hxl (by have := hA.fl; omega)
  unfold ens at hS
  have hBo := fun wx (q : Keep w1 wx) => Bounds_err nm fa fs cf N ba base cb ta ts ct ax xs cx 0 wx ((hA.keep k1).keep q) he
  by_cases hc : (chB nm fs N base ts).1 = 0
  · have hne : xs.length ≠ fs.length := by
      intro q
      apply he
      unfold exE
      rw [if_pos hc, if_pos q]
    have hE : exE nm fs N base ts xs.length = 72 := by unfold exE; rw [if_pos hc, if_neg hne]
    have hsc := score_ok (xs := xs) hc
    rw [if_pos hne] at hsc
    rw [hE] at hBo
    rw [hsc] at hS
    rw [hc] at hV
    generalize (scS fs.length N base ts xs).1 = sl at hS
    clear hsc hE hne hc he
    replace hV : ∀ wx, Keep w1 wx → Calls Tryd.prog 7 #[.agg (ev nm fa fs.length cf N ba base.length cb ta ts.length ct)] wx (fun e w' => e = .returned (.bool true) ∧ Keep wx w') := hV
    go_enter Tryd.func3, Tryd.ntmps3
    have tok : True := trivial
    go_wp2_with (first
      | rw [hw1]
      | (go_at_call 5; refine hB.mono ?_; rintro e w2 ⟨rfl, k2⟩; obtain ⟨y0, y1, y2, y3, y4⟩ := cells5 (k2.at t1))
      | (go_at_call 6; refine (hS w2 k2).mono ?_; rintro e w3 ⟨v, rfl, -, k3⟩; have k13 := k2.trans k3; clear y0 y1 y2 y3 y4; obtain ⟨y0, y1, y2, y3, y4⟩ := cells5 (k13.at t1))
      | (go_at_call 7; refine (hV w3 k13).mono ?_; rintro e w4 ⟨rfl, k4⟩; have k14 := k13.trans k4; clear y0 y1 y2 y3 y4; obtain ⟨y0, y1, y2, y3, y4⟩ := cells5 (k14.at t1))
      | (go_at_call 8; refine (hBo w4 k14).mono ?_; rintro e w5 ⟨rfl, k5⟩; have k15 := k14.trans k5))
    go_ret
    exact ⟨rfl, k1.trans k15⟩
  · have hE : exE nm fs N base ts xs.length = 5 := by unfold exE; rw [if_neg hc]
    rw [hE] at hBo
    have hcf : ((chB nm fs N base ts).1 == 0) = false := by simpa using hc
    rw [hcf] at hV
    generalize scS fs.length N base ts xs = sl at hS
    clear hE hc hcf he
    go_enter Tryd.func3, Tryd.ntmps3
    have tok1 : True := trivial
    go_wp2_with (first
      | rw [hw1]
      | (go_at_call 5; refine hB.mono ?_; rintro e w2 ⟨rfl, k2⟩; obtain ⟨y0, y1, y2, y3, y4⟩ := cells5 (k2.at t1))
      | (go_at_call 6; refine (hS w2 k2).mono ?_; rintro e w3 ⟨v, rfl, -, k3⟩; have k13 := k2.trans k3; clear y0 y1 y2 y3 y4; obtain ⟨y0, y1, y2, y3, y4⟩ := cells5 (k13.at t1))
      | (go_at_call 7; have _t := tok1; clear tok1; refine (hV w3 k13).mono ?_; rintro e w4 ⟨rfl, k4⟩; have k14 := k13.trans k4; clear y0 y1 y2 y3 y4; obtain ⟨y0, y1, y2, y3, y4⟩ := cells5 (k14.at t1))
      | (go_at_call 8; refine (hBo w4 k14).mono ?_; rintro e w5 ⟨rfl, k5⟩; have k15 := k14.trans k5; clear y0 y1 y2 y3 y4; obtain ⟨y0, y1, y2, y3, y4⟩ := cells5 (k15.at t1); have tok2 : True := trivial)
      | (go_at_call 7; have _t := tok2; clear tok2; refine (hV w5 k15).mono ?_; rintro e w6 ⟨rfl, k6⟩; have k16 := k15.trans k6))
    go_ret
    exact ⟨rfl, k1.trans k16⟩
end Go.Proofs.YtodegcobkngmlaaDoor
set_option linter.unusedVariables false
set_option linter.unusedSimpArgs false
namespace Go.Proofs.YtodegcobkngmlaaDoor
open Go.RowKit Go.Shelf
theorem VB_at {l : List (Int × Int)} {w : World} {g o : Nat} {lo hi : Int} (hg : w.heap[g]? = some (.cells (VB l).toArray 37 (0, 0))) (ho : o < l.length) (h : l.getD o (0, 0) = (lo, hi)) : w.cell? ⟨g, o * 2, none⟩ = some (.int .i64 lo) ∧ w.cell? ⟨g, o * 2 + 1, none⟩ = some (.int .i64 hi) := by
  constructor
  · rw [cell_of_row _ _ _ _ 37 (0, 0) hg]
    have := VB_lo l o ho
    rw [h] at this
    simpa using this
  · rw [cell_of_row _ _ _ _ 37 (0, 0) hg]
    have := VB_hi l o ho
    rw [h] at this
    simpa using this
end Go.Proofs.YtodegcobkngmlaaDoor
