import Derived.Test.YtpdjpjkieafnbaaGreatDoorRQ3
import Derived.Test.YtpdjpjkieafnbaaGreatDoorZB
import Derived.Test.YtpdjpjkieafnbaaGreatDoorNX6
import Derived.Deep.RegionHeld3
import Derived.Test.YtpdjpjkieafnbaaGreatDoorCards
import Derived.Test.YtpdjpjkieafnbaaGreatDoorTie
import Derived.Test.YtpdjpjkieafnbaaGreatDoorRows
import Derived.Test.YtpdjpjkieafnbaaGreatDoorChecked
import Derived.ProofKit
import Derived.OpenShut
import Derived.SizedLaws
import Derived.Deep.DeepHandedRow
import Derived.Lib.LaidTab
set_option linter.unusedVariables false
set_option linter.unusedSimpArgs false
namespace Go.Proofs.YtpdjpjkieafnbaaGreatDoor.Li
open Go.RowKit Lb Nr
theorem dD_ge : ∀ (k n : Nat), n ≤ k → 0 < n → 10 ^ ((dD n).length - 1) ≤ n := by
  intro k
  induction k with
  | zero => intro n h h0; omega
  | succ k ih =>
    intro n h h0
    by_cases q : n < 10
    · rw [dD_small q]
      show 1 ≤ n
      omega
    · rw [dD_step q, List.length_append, List.length_singleton, Nat.add_sub_cancel]
      have a := ih (n / 10) (by omega) (by omega)
      have hl : 0 < (dD (n / 10)).length := List.length_pos_iff.2 (dD_ne _)
      have e : 10 ^ (dD (n / 10)).length = 10 * 10 ^ ((dD (n / 10)).length - 1) := by
        rw [← Nat.pow_succ']
        congr 1
        omega
      rw [e]
      have b := Nat.mul_le_mul_left 10 a
      have c := Nat.mul_div_le n 10
      exact Nat.le_trans b c
/-- The two powers: the program's and the reference's. -/
theorem pc_pw (np : Bool) (ds : List UInt8) (D L lim : Int) (hD : 0 ≤ D ∧ D ≤ 16384) (hL : 0 ≤ L ∧ L ≤ 16384) (hlim : lim = 600 ∨ lim = 2000) :
    (lim < D + (pcN np ds - L) → lim < D + (pwN np ds - L)) ∧ (D + (pcN np ds - L) < -lim → D + (pwN np ds - L) < -lim) ∧ (-lim ≤ D + (pcN np ds - L) → D + (pcN np ds - L) ≤ lim → pcN np ds = pwN np ds) := by
  unfold pcN pwN
  have hf : far = 1048576 := rfl
  rw [hf]
  generalize nat ds = n
  cases np with
  | true =>
    simp only [if_true]
    refine ⟨?_, ?_, ?_⟩ <;> omega
  | false =>
    simp only [Bool.false_eq_true, if_false]
    refine ⟨?_, ?_, ?_⟩ <;> omega
theorem pow_210 (k : Nat) : 2 ^ (3 * k) ≤ 10 ^ k := by
  rw [Nat.pow_mul]
  exact Nat.pow_le_pow_left (by decide) _
theorem pow2_le (a b c d : Nat) (h : a + b ≤ c + d) : 2 ^ a * 2 ^ b ≤ 2 ^ c * 2 ^ d := by
  rw [← Nat.pow_add, ← Nat.pow_add]
  exact Nat.pow_le_pow_right (by decide) h
theorem pow2_le1 (a b c : Nat) (h : a + b ≤ c) : 2 ^ a * 2 ^ b ≤ 2 ^ c := by
  rw [← Nat.pow_add]
  exact Nat.pow_le_pow_right (by decide) h
theorem N_lt {s : List UInt8} (hs : s.length ≤ 4096) (hhx : cHx s = false) : rdN s < 16 ^ s.length := by
  have h1 : rdN s = bn 10 (cWh s ++ cPt s) := (bn_dec ((cWh_d hhx).app (cPt_d hhx))).symm
  rw [h1]
  exact bn_gen 10 (by omega) _ _ (cl_all s).1
theorem X_lt {s : List UInt8} (hs : s.length ≤ 4096) : rxN s < 16 ^ s.length := by
  have h1 : rxN s = bn 16 (cWh s ++ cPt s) := (bn_hex _).symm
  rw [h1]
  exact bn_gen 16 (by omega) _ _ (cl_all s).1
theorem Pt_le (s : List UInt8) : (cPt s).length ≤ s.length := by
  have := (cl_all s).1
  rw [List.length_append] at this
  omega
end Go.Proofs.YtpdjpjkieafnbaaGreatDoor.Li
namespace Go.Proofs.YtpdjpjkieafnbaaGreatDoor.Li
open Go.RowKit Lb Nr
def Qf (N D : Nat) (inf : Bool) (M : Nat) (E : Int) : Prop := M < 9007199254740992 ∧ -1074 ≤ E ∧ E ≤ 971 ∧ NB N D (nb inf M E)
theorem near_ok : NearOk 53 (-1074) 971 Qf := by
  intro v1 v2 N D wx n1 n2 hN hD h1 h2
  refine (rnearest_any v1 v2 N D 1000 wx n1 n2 (by decide) hN hD h1 h2).mono ?_
  rintro e w' ⟨E, hE, rfl, k⟩
  obtain ⟨s1, s2⟩ := small_E h2 hE
  have hlo : -1074 ≤ E := hE.1
  have hNB : ∀ x, x = wb (Nr.rup (sA N E) (sB D E)) E → NB N D x := by
    intro x hx
    refine ⟨fun h0 => by omega, fun _ E' hE' => ?_⟩
    rw [isE_one h2 hE' hE]
    exact hx
  generalize Nr.rup (sA N E) (sB D E) = q at *
  clear hN hD
  unfold nearV
  by_cases c : 971 < rE q E
  · rw [if_pos c]
    refine ⟨true, 0, 0, rfl, ⟨by omega, by omega, by omega, hNB _ ?_⟩, k⟩
    unfold nb wb
    unfold rE at c
    rw [if_pos rfl]
    split at c <;> split <;> omega
  · rw [if_neg c]
    refine ⟨false, rM q, rE q E, rfl, ⟨?_, ?_, by omega, hNB _ ?_⟩, k⟩
    · unfold rM; split <;> omega
    · unfold rE; split <;> omega
    · unfold nb wb rM rE
      unfold rE at c
      rw [if_neg (by simp)]
      by_cases e : q = 9007199254740992
      · rw [if_pos e] at c
        rw [if_pos e, if_pos e]
        repeat' split
        all_goals omega
      · rw [if_neg e] at c
        rw [if_neg e, if_neg e]
        repeat' split
        all_goals omega
theorem hiD {S D : Nat} {p : Int} (k : Nat) (hk : 1100 < 3 * k) (hge : 10 ^ (D - 1) ≤ S) (hD0 : 0 < D) (hp : (k : Int) < (D : Int) + p) : NB (S * 10 ^ p.toNat) (10 ^ (-p).toNat) (nb true 0 0) := by
  apply NB.high (3 * k) hk (Nat.pow_pos (by omega))
  have a : 10 ^ (-p).toNat * 2 ^ (3 * k) ≤ 10 ^ (-p).toNat * 10 ^ k := Nat.mul_le_mul_left _ (pow_210 k)
  refine Nat.le_trans a (Nat.le_trans ?_ (Nat.mul_le_mul_right _ hge))
  rw [← Nat.pow_add, ← Nat.pow_add]
  exact Nat.pow_le_pow_right (by decide) (by clear hge a; omega)
theorem loD {S D : Nat} {p : Int} (k : Nat) (hk : 1100 < 3 * k) (hlt : S < 10 ^ D) (hp : (D : Int) + p < -(k : Int)) : NB (S * 10 ^ p.toNat) (10 ^ (-p).toNat) (nb false 0 0) := by
  have hz : p.toNat = 0 := by clear hlt; omega
  apply NB.low (3 * k) hk (Nat.pow_pos (by omega))
  rw [hz, Nat.pow_zero, Nat.mul_one]
  have a : S * 2 ^ (3 * k) ≤ 10 ^ D * 10 ^ k := Nat.mul_le_mul (Nat.le_of_lt hlt) (pow_210 k)
  refine Nat.le_trans a ?_
  rw [← Nat.pow_add]
  exact Nat.pow_le_pow_right (by decide) (by clear hlt a; omega)
theorem hiX {S D : Nat} {p : Int} (k : Nat) (hk : 1100 < k) (hge : 2 ^ (D - 1) ≤ S) (hD0 : 0 < D) (hp : (k : Int) < (D : Int) + p) : NB (S * 2 ^ p.toNat) (2 ^ (-p).toNat) (nb true 0 0) := by
  apply NB.high k hk (Nat.pow_pos (by omega))
  refine Nat.le_trans ?_ (Nat.mul_le_mul_right _ hge)
  exact pow2_le _ _ _ _ (by clear hge; omega)
theorem loX {S D : Nat} {p : Int} (k : Nat) (hk : 1100 < k) (hlt : S < 2 ^ D) (hp : (D : Int) + p < -(k : Int)) : NB (S * 2 ^ p.toNat) (2 ^ (-p).toNat) (nb false 0 0) := by
  have hz : p.toNat = 0 := by clear hlt; omega
  apply NB.low k hk (Nat.pow_pos (by omega))
  rw [hz, Nat.pow_zero, Nat.mul_one]
  refine Nat.le_trans (Nat.mul_le_mul_right _ (Nat.le_of_lt hlt)) ?_
  exact pow2_le1 _ _ _ (by clear hlt; omega)
theorem rn_dec {s : List UInt8} (hs : s.length ≤ 4096) (hhx : cHx s = false) {inf : Bool} {M : Nat} {E : Int} (h : RNq Qf 600 (rdN s) (((dD (rdN s)).length : Int) + (pcN (cNP s) (cDP s) - ((cPt s).length : Int))) (rdN s * 10 ^ (pcN (cNP s) (cDP s) - ((cPt s).length : Int)).toNat) (10 ^ (-(pcN (cNP s) (cDP s) - ((cPt s).length : Int))).toNat) inf M E) :
    M < 9007199254740992 ∧ -1074 ≤ E ∧ E ≤ 971 ∧ NB (rdN s * 10 ^ (rdP s).toNat) (10 ^ (-(rdP s)).toNat) (nb inf M E) := by
  have hP : rdP s = pwN (cNP s) (cDP s) - ((cPt s).length : Int) := rfl
  have hl := Pt_le s
  have hDl := bnd_dD (N := rdN s) rfl s.length hs (N_lt hs hhx)
  have hlt := dD_lt (rdN s)
  have hge := dD_ge (rdN s) (rdN s) (Nat.le_refl _)
  obtain ⟨a1, a2, a3⟩ := pc_pw (cNP s) (cDP s) ((dD (rdN s)).length : Int) ((cPt s).length : Int) 600 (by omega) (by omega) (.inl rfl)
  rw [← hP] at a1 a2
  rcases h with ⟨h0, rfl, rfl, rfl⟩ | ⟨h0, ⟨hd, rfl, rfl, rfl⟩ | ⟨hd, rfl, rfl, rfl⟩ | ⟨hd1, hd2, hq⟩⟩
  · refine ⟨by omega, by omega, by omega, ?_⟩
    rw [h0, Nat.zero_mul]
    exact ⟨fun _ => rfl, fun q => by omega⟩
  · refine ⟨by omega, by omega, by omega, ?_⟩
    have hp := a1 hd
    have hge := hge h0
    exact hiD 600 (by omega) hge (List.length_pos_iff.2 (dD_ne _)) (by omega)
  · refine ⟨by omega, by omega, by omega, ?_⟩
    have hp := a2 hd
    exact loD 600 (by omega) hlt (by omega)
  · have e := a3 hd1 hd2
    rw [e, ← hP] at hq
    exact hq
theorem rn_hex {s : List UInt8} (hs : s.length ≤ 4096) {inf : Bool} {M : Nat} {E : Int} (h : RNq Qf 2000 (rxN s) ((sz (rxN s) : Int) + (pcN (cNP s) (cDP s) - 4 * ((cPt s).length : Int))) (rxN s * 2 ^ (pcN (cNP s) (cDP s) - 4 * ((cPt s).length : Int)).toNat) (2 ^ (-(pcN (cNP s) (cDP s) - 4 * ((cPt s).length : Int))).toNat) inf M E) :
    M < 9007199254740992 ∧ -1074 ≤ E ∧ E ≤ 971 ∧ NB (rxN s * 2 ^ (rxP s).toNat) (2 ^ (-(rxP s)).toNat) (nb inf M E) := by
  have hP : rxP s = pwN (cNP s) (cDP s) - 4 * ((cPt s).length : Int) := rfl
  have hl := Pt_le s
  have hDl := bnd_sz (N := rxN s) rfl s.length hs (X_lt hs)
  have hlt := sz_lt (rxN s)
  have hge := fun h => sz_ge (n := rxN s) h
  obtain ⟨a1, a2, a3⟩ := pc_pw (cNP s) (cDP s) (sz (rxN s) : Int) (4 * ((cPt s).length : Int)) 2000 (by omega) (by omega) (.inr rfl)
  rw [← hP] at a1 a2
  rcases h with ⟨h0, rfl, rfl, rfl⟩ | ⟨h0, ⟨hd, rfl, rfl, rfl⟩ | ⟨hd, rfl, rfl, rfl⟩ | ⟨hd1, hd2, hq⟩⟩
  · refine ⟨by omega, by omega, by omega, ?_⟩
    rw [h0, Nat.zero_mul]
    exact ⟨fun _ => rfl, fun q => by omega⟩
  · refine ⟨by omega, by omega, by omega, ?_⟩
    have hp := a1 hd
    obtain ⟨hge, hD0⟩ := hge h0
    exact hiX 2000 (by omega) hge hD0 (by omega)
  · refine ⟨by omega, by omega, by omega, ?_⟩
    have hp := a2 hd
    exact loX 2000 (by omega) hlt (by omega)
  · have e := a3 hd1 hd2
    rw [e, ← hP] at hq
    exact hq
/-- What the reference says of a text. -/
def RG (s : List UInt8) (ng inf nan : Bool) (M : Nat) (E : Int) (e a : Nat) : Prop :=
  (nan = true ∧ s = [110, 97, 110] ∧ ng = false ∧ inf = false ∧ M = 0 ∧ E = 0 ∧ e = 0 ∧ a = 0) ∨
  (nan = false ∧ M < 9007199254740992 ∧ -1074 ≤ E ∧ E ≤ 971 ∧ FR s (nb inf M E + sg ng) e a)
theorem rRead_all (s : List UInt8) (w : World) :
    Calls Tryz.prog 13 #[.string ⟨s.toArray⟩, wideV] w fun r w' => ∃ ng inf nan M E e a, r = .returned (.tuple #[numA ng inf nan M E, .int .i64 ((e : Nat) : Int), .int .i64 ((a : Nat) : Int)]) ∧ RG s ng inf nan M E e a ∧ Keep w w' := by
  unfold wideV
  by_cases hl : 4096 < s.length
  · refine (rRead_long _ _ _ s w hl).mono ?_
    rintro r w' ⟨rfl, k⟩
    exact ⟨false, false, false, 0, 0, 4, 0, rfl, .inr ⟨rfl, by omega, by omega, by omega, .inl ⟨hl, rfl, rfl, rfl⟩⟩, k⟩
  have hl' : s.length ≤ 4096 := by omega
  by_cases h1 : s = [110, 97, 110]
  · refine (rRead_nan _ _ _ s w h1).mono ?_
    rintro r w' ⟨rfl, k⟩
    exact ⟨false, false, true, 0, 0, 0, 0, rfl, .inl ⟨rfl, h1, rfl, rfl, rfl, rfl, rfl, rfl⟩, k⟩
  by_cases h2 : s = [105, 110, 102]
  · refine (rRead_inf _ _ _ s w h2).mono ?_
    rintro r w' ⟨rfl, k⟩
    exact ⟨false, true, false, 0, 0, 0, 0, rfl, .inr ⟨rfl, by omega, by omega, by omega, .inr ⟨hl', .inr (.inl ⟨h2, rfl, rfl, rfl⟩)⟩⟩, k⟩
  by_cases h3 : s = [45, 105, 110, 102]
  · refine (rRead_ninf _ _ _ s w h3).mono ?_
    rintro r w' ⟨rfl, k⟩
    exact ⟨true, true, false, 0, 0, 0, 0, rfl, .inr ⟨rfl, by omega, by omega, by omega, .inr ⟨hl', .inr (.inr (.inl ⟨h3, rfl, rfl, rfl⟩))⟩⟩, k⟩
  cases hok : cOk s with
  | false =>
    refine (rRead_bad _ _ _ s w hl' hok h1 h2 h3).mono ?_
    rintro r w' ⟨rfl, k⟩
    exact ⟨false, false, false, 0, 0, 20, fltAt s, rfl, .inr ⟨rfl, by omega, by omega, by omega, .inr ⟨hl', .inr (.inr (.inr (.inr ⟨h1, h2, h3, hok, rfl, rfl, rfl⟩)))⟩⟩, k⟩
  | true =>
    cases hhx : cHx s with
    | false =>
      refine (rRead_dec _ _ _ Qf near_ok s w hl' hok hhx).mono ?_
      rintro r w' ⟨inf, M, E, rfl, hq, k⟩
      obtain ⟨b1, b2, b3, b4⟩ := rn_dec hl' hhx hq
      exact ⟨cNg s, inf, false, M, E, 0, 0, rfl, .inr ⟨rfl, b1, b2, b3, .inr ⟨hl', .inr (.inr (.inr (.inl ⟨hok, rfl, rfl, _, rfl, fun _ => b4, fun h => by rw [hhx] at h; cases h⟩)))⟩⟩, k⟩
    | true =>
      refine (rRead_hex _ _ _ Qf near_ok s w hl' hok hhx).mono ?_
      rintro r w' ⟨inf, M, E, rfl, hq, k⟩
      obtain ⟨b1, b2, b3, b4⟩ := rn_hex hl' hq
      exact ⟨cNg s, inf, false, M, E, 0, 0, rfl, .inr ⟨rfl, b1, b2, b3, .inr ⟨hl', .inr (.inr (.inr (.inl ⟨hok, rfl, rfl, _, rfl, fun h => by (rw [hhx] at h; cases h), fun _ => b4⟩)))⟩⟩, k⟩
theorem NB.oneZ {N D x y : Nat} (hD : 0 < D) (h : NB N D x) (g : NB N D y) : x = y := by
  rcases Nat.eq_zero_or_pos N with c | c
  · rw [h.1 c, g.1 c]
  · obtain ⟨E, hE⟩ := exE c hD
    rw [h.2 c E hE, g.2 c E hE]
/-- A text is read in one way. -/
theorem FR.one {s : List UInt8} {x e a x' e' a' : Nat} (h : FR s x e a) (g : FR s x' e' a') : x = x' ∧ e = e' ∧ a = a' := by
  rcases h with ⟨h0, rfl, rfl, rfl⟩ | ⟨h0, h⟩
  · rcases g with ⟨g0, rfl, rfl, rfl⟩ | ⟨g0, g⟩
    · exact ⟨rfl, rfl, rfl⟩
    · omega
  rcases g with ⟨g0, -⟩ | ⟨g0, g⟩
  · omega
  rcases h with ⟨hs, rfl, rfl, rfl⟩ | ⟨hs, rfl, rfl, rfl⟩ | ⟨hs, rfl, rfl, rfl⟩ | ⟨hs, rfl, rfl, y, rfl, hy1, hy2⟩ | ⟨hs1, hs2, hs3, hs, rfl, rfl, rfl⟩
  · rcases g with ⟨gs, rfl, rfl, rfl⟩ | ⟨gs, rfl, rfl, rfl⟩ | ⟨gs, rfl, rfl, rfl⟩ | ⟨gs, rfl, rfl, z, rfl, gz1, gz2⟩ | ⟨gs1, gs2, gs3, gs, rfl, rfl, rfl⟩
    · exact ⟨rfl, rfl, rfl⟩
    · exact absurd (hs.symm.trans gs) (by decide)
    · exact absurd (hs.symm.trans gs) (by decide)
    · exact absurd hs (not_word gs).1
    · exact absurd hs gs1
  · rcases g with ⟨gs, rfl, rfl, rfl⟩ | ⟨gs, rfl, rfl, rfl⟩ | ⟨gs, rfl, rfl, rfl⟩ | ⟨gs, rfl, rfl, z, rfl, gz1, gz2⟩ | ⟨gs1, gs2, gs3, gs, rfl, rfl, rfl⟩
    · exact absurd (hs.symm.trans gs) (by decide)
    · exact ⟨rfl, rfl, rfl⟩
    · exact absurd (hs.symm.trans gs) (by decide)
    · exact absurd hs (not_word gs).2.1
    · exact absurd hs gs2
  · rcases g with ⟨gs, rfl, rfl, rfl⟩ | ⟨gs, rfl, rfl, rfl⟩ | ⟨gs, rfl, rfl, rfl⟩ | ⟨gs, rfl, rfl, z, rfl, gz1, gz2⟩ | ⟨gs1, gs2, gs3, gs, rfl, rfl, rfl⟩
    · exact absurd (hs.symm.trans gs) (by decide)
    · exact absurd (hs.symm.trans gs) (by decide)
    · exact ⟨rfl, rfl, rfl⟩
    · exact absurd hs (not_word gs).2.2
    · exact absurd hs gs3
  · rcases g with ⟨gs, rfl, rfl, rfl⟩ | ⟨gs, rfl, rfl, rfl⟩ | ⟨gs, rfl, rfl, rfl⟩ | ⟨gs, rfl, rfl, z, rfl, gz1, gz2⟩ | ⟨gs1, gs2, gs3, gs, rfl, rfl, rfl⟩
    · exact absurd gs (not_word hs).1
    · exact absurd gs (not_word hs).2.1
    · exact absurd gs (not_word hs).2.2
    · refine ⟨?_, rfl, rfl⟩
      cases hhx : cHx s with
      | false => rw [NB.oneZ (Nat.pow_pos (by omega)) (hy1 hhx) (gz1 hhx)]
      | true => rw [NB.oneZ (Nat.pow_pos (by omega)) (hy2 hhx) (gz2 hhx)]
    · exact absurd (hs.symm.trans gs) (by decide)
  · rcases g with ⟨gs, rfl, rfl, rfl⟩ | ⟨gs, rfl, rfl, rfl⟩ | ⟨gs, rfl, rfl, rfl⟩ | ⟨gs, rfl, rfl, z, rfl, gz1, gz2⟩ | ⟨gs1, gs2, gs3, gs, rfl, rfl, rfl⟩
    · exact absurd gs hs1
    · exact absurd gs hs2
    · exact absurd gs hs3
    · exact absurd (hs.symm.trans gs) (by decide)
    · exact ⟨rfl, rfl, rfl⟩
end Go.Proofs.YtpdjpjkieafnbaaGreatDoor.Li
namespace Go.Proofs.YtpdjpjkieafnbaaGreatDoor.Li.Nw
open Go.RowKit Lb Nr
def Qf (N D : Nat) (inf : Bool) (M : Nat) (E : Int) : Prop := M < 16777216 ∧ -149 ≤ E ∧ E ≤ 104 ∧ NB N D (nb inf M E)
theorem near_ok : NearOk 24 (-149) 104 Qf := by
  intro v1 v2 N D wx n1 n2 hN hD h1 h2
  refine (rnearest_any v1 v2 N D 1000 wx n1 n2 (by decide) hN hD h1 h2).mono ?_
  rintro e w' ⟨E, hE, rfl, k⟩
  obtain ⟨s1, s2⟩ := small_E h2 hE
  have hlo : -149 ≤ E := hE.1
  have hNB : ∀ x, x = wb (Nr.rup (sA N E) (sB D E)) E → NB N D x := by
    intro x hx
    refine ⟨fun h0 => by omega, fun _ E' hE' => ?_⟩
    rw [isE_one h2 hE' hE]
    exact hx
  generalize Nr.rup (sA N E) (sB D E) = q at *
  clear hN hD
  unfold nearV
  by_cases c : 104 < rE q E
  · rw [if_pos c]
    refine ⟨true, 0, 0, rfl, ⟨by omega, by omega, by omega, hNB _ ?_⟩, k⟩
    unfold nb wb
    unfold rE at c
    rw [if_pos rfl]
    split at c <;> split <;> omega
  · rw [if_neg c]
    refine ⟨false, rM q, rE q E, rfl, ⟨?_, ?_, by omega, hNB _ ?_⟩, k⟩
    · unfold rM; split <;> omega
    · unfold rE; split <;> omega
    · unfold nb wb rM rE
      unfold rE at c
      rw [if_neg (by simp)]
      by_cases e : q = 16777216
      · rw [if_pos e] at c
        rw [if_pos e, if_pos e]
        repeat' split
        all_goals omega
      · rw [if_neg e] at c
        rw [if_neg e, if_neg e]
        repeat' split
        all_goals omega
theorem hiD {S D : Nat} {p : Int} (k : Nat) (hk : 1100 < 3 * k) (hge : 10 ^ (D - 1) ≤ S) (hD0 : 0 < D) (hp : (k : Int) < (D : Int) + p) : NB (S * 10 ^ p.toNat) (10 ^ (-p).toNat) (nb true 0 0) := by
  apply NB.high (3 * k) hk (Nat.pow_pos (by omega))
  have a : 10 ^ (-p).toNat * 2 ^ (3 * k) ≤ 10 ^ (-p).toNat * 10 ^ k := Nat.mul_le_mul_left _ (pow_210 k)
  refine Nat.le_trans a (Nat.le_trans ?_ (Nat.mul_le_mul_right _ hge))
  rw [← Nat.pow_add, ← Nat.pow_add]
  exact Nat.pow_le_pow_right (by decide) (by clear hge a; omega)
theorem loD {S D : Nat} {p : Int} (k : Nat) (hk : 1100 < 3 * k) (hlt : S < 10 ^ D) (hp : (D : Int) + p < -(k : Int)) : NB (S * 10 ^ p.toNat) (10 ^ (-p).toNat) (nb false 0 0) := by
  have hz : p.toNat = 0 := by clear hlt; omega
  apply NB.low (3 * k) hk (Nat.pow_pos (by omega))
  rw [hz, Nat.pow_zero, Nat.mul_one]
  have a : S * 2 ^ (3 * k) ≤ 10 ^ D * 10 ^ k := Nat.mul_le_mul (Nat.le_of_lt hlt) (pow_210 k)
  refine Nat.le_trans a ?_
  rw [← Nat.pow_add]
  exact Nat.pow_le_pow_right (by decide) (by clear hlt a; omega)
theorem hiX {S D : Nat} {p : Int} (k : Nat) (hk : 1100 < k) (hge : 2 ^ (D - 1) ≤ S) (hD0 : 0 < D) (hp : (k : Int) < (D : Int) + p) : NB (S * 2 ^ p.toNat) (2 ^ (-p).toNat) (nb true 0 0) := by
  apply NB.high k hk (Nat.pow_pos (by omega))
  refine Nat.le_trans ?_ (Nat.mul_le_mul_right _ hge)
  exact pow2_le _ _ _ _ (by clear hge; omega)
theorem loX {S D : Nat} {p : Int} (k : Nat) (hk : 1100 < k) (hlt : S < 2 ^ D) (hp : (D : Int) + p < -(k : Int)) : NB (S * 2 ^ p.toNat) (2 ^ (-p).toNat) (nb false 0 0) := by
  have hz : p.toNat = 0 := by clear hlt; omega
  apply NB.low k hk (Nat.pow_pos (by omega))
  rw [hz, Nat.pow_zero, Nat.mul_one]
  refine Nat.le_trans (Nat.mul_le_mul_right _ (Nat.le_of_lt hlt)) ?_
  exact pow2_le1 _ _ _ (by clear hlt; omega)
theorem rn_dec {s : List UInt8} (hs : s.length ≤ 4096) (hhx : cHx s = false) {inf : Bool} {M : Nat} {E : Int} (h : RNq Qf 600 (rdN s) (((dD (rdN s)).length : Int) + (pcN (cNP s) (cDP s) - ((cPt s).length : Int))) (rdN s * 10 ^ (pcN (cNP s) (cDP s) - ((cPt s).length : Int)).toNat) (10 ^ (-(pcN (cNP s) (cDP s) - ((cPt s).length : Int))).toNat) inf M E) :
    M < 16777216 ∧ -149 ≤ E ∧ E ≤ 104 ∧ NB (rdN s * 10 ^ (rdP s).toNat) (10 ^ (-(rdP s)).toNat) (nb inf M E) := by
  have hP : rdP s = pwN (cNP s) (cDP s) - ((cPt s).length : Int) := rfl
  have hl := Pt_le s
  have hDl := bnd_dD (N := rdN s) rfl s.length hs (N_lt hs hhx)
  have hlt := dD_lt (rdN s)
  have hge := dD_ge (rdN s) (rdN s) (Nat.le_refl _)
  obtain ⟨a1, a2, a3⟩ := pc_pw (cNP s) (cDP s) ((dD (rdN s)).length : Int) ((cPt s).length : Int) 600 (by omega) (by omega) (.inl rfl)
  rw [← hP] at a1 a2
  rcases h with ⟨h0, rfl, rfl, rfl⟩ | ⟨h0, ⟨hd, rfl, rfl, rfl⟩ | ⟨hd, rfl, rfl, rfl⟩ | ⟨hd1, hd2, hq⟩⟩
  · refine ⟨by omega, by omega, by omega, ?_⟩
    rw [h0, Nat.zero_mul]
    exact ⟨fun _ => rfl, fun q => by omega⟩
  · refine ⟨by omega, by omega, by omega, ?_⟩
    have hp := a1 hd
    have hge := hge h0
    exact hiD 600 (by omega) hge (List.length_pos_iff.2 (dD_ne _)) (by omega)
  · refine ⟨by omega, by omega, by omega, ?_⟩
    have hp := a2 hd
    exact loD 600 (by omega) hlt (by omega)
  · have e := a3 hd1 hd2
    rw [e, ← hP] at hq
    exact hq
theorem rn_hex {s : List UInt8} (hs : s.length ≤ 4096) {inf : Bool} {M : Nat} {E : Int} (h : RNq Qf 2000 (rxN s) ((sz (rxN s) : Int) + (pcN (cNP s) (cDP s) - 4 * ((cPt s).length : Int))) (rxN s * 2 ^ (pcN (cNP s) (cDP s) - 4 * ((cPt s).length : Int)).toNat) (2 ^ (-(pcN (cNP s) (cDP s) - 4 * ((cPt s).length : Int))).toNat) inf M E) :
    M < 16777216 ∧ -149 ≤ E ∧ E ≤ 104 ∧ NB (rxN s * 2 ^ (rxP s).toNat) (2 ^ (-(rxP s)).toNat) (nb inf M E) := by
  have hP : rxP s = pwN (cNP s) (cDP s) - 4 * ((cPt s).length : Int) := rfl
  have hl := Pt_le s
  have hDl := bnd_sz (N := rxN s) rfl s.length hs (X_lt hs)
  have hlt := sz_lt (rxN s)
  have hge := fun h => sz_ge (n := rxN s) h
  obtain ⟨a1, a2, a3⟩ := pc_pw (cNP s) (cDP s) (sz (rxN s) : Int) (4 * ((cPt s).length : Int)) 2000 (by omega) (by omega) (.inr rfl)
  rw [← hP] at a1 a2
  rcases h with ⟨h0, rfl, rfl, rfl⟩ | ⟨h0, ⟨hd, rfl, rfl, rfl⟩ | ⟨hd, rfl, rfl, rfl⟩ | ⟨hd1, hd2, hq⟩⟩
  · refine ⟨by omega, by omega, by omega, ?_⟩
    rw [h0, Nat.zero_mul]
    exact ⟨fun _ => rfl, fun q => by omega⟩
  · refine ⟨by omega, by omega, by omega, ?_⟩
    have hp := a1 hd
    obtain ⟨hge, hD0⟩ := hge h0
    exact hiX 2000 (by omega) hge hD0 (by omega)
  · refine ⟨by omega, by omega, by omega, ?_⟩
    have hp := a2 hd
    exact loX 2000 (by omega) hlt (by omega)
  · have e := a3 hd1 hd2
    rw [e, ← hP] at hq
    exact hq
/-- What the reference says of a text. -/
def RG (s : List UInt8) (ng inf nan : Bool) (M : Nat) (E : Int) (e a : Nat) : Prop :=
  (nan = true ∧ s = [110, 97, 110] ∧ ng = false ∧ inf = false ∧ M = 0 ∧ E = 0 ∧ e = 0 ∧ a = 0) ∨
  (nan = false ∧ M < 16777216 ∧ -149 ≤ E ∧ E ≤ 104 ∧ FR s (nb inf M E + sg ng) e a)
theorem rRead_all (s : List UInt8) (w : World) :
    Calls Tryz.prog 13 #[.string ⟨s.toArray⟩, narrowV] w fun r w' => ∃ ng inf nan M E e a, r = .returned (.tuple #[numA ng inf nan M E, .int .i64 ((e : Nat) : Int), .int .i64 ((a : Nat) : Int)]) ∧ RG s ng inf nan M E e a ∧ Keep w w' := by
  unfold narrowV
  by_cases hl : 4096 < s.length
  · refine (rRead_long _ _ _ s w hl).mono ?_
    rintro r w' ⟨rfl, k⟩
    exact ⟨false, false, false, 0, 0, 4, 0, rfl, .inr ⟨rfl, by omega, by omega, by omega, .inl ⟨hl, rfl, rfl, rfl⟩⟩, k⟩
  have hl' : s.length ≤ 4096 := by omega
  by_cases h1 : s = [110, 97, 110]
  · refine (rRead_nan _ _ _ s w h1).mono ?_
    rintro r w' ⟨rfl, k⟩
    exact ⟨false, false, true, 0, 0, 0, 0, rfl, .inl ⟨rfl, h1, rfl, rfl, rfl, rfl, rfl, rfl⟩, k⟩
  by_cases h2 : s = [105, 110, 102]
  · refine (rRead_inf _ _ _ s w h2).mono ?_
    rintro r w' ⟨rfl, k⟩
    exact ⟨false, true, false, 0, 0, 0, 0, rfl, .inr ⟨rfl, by omega, by omega, by omega, .inr ⟨hl', .inr (.inl ⟨h2, rfl, rfl, rfl⟩)⟩⟩, k⟩
  by_cases h3 : s = [45, 105, 110, 102]
  · refine (rRead_ninf _ _ _ s w h3).mono ?_
    rintro r w' ⟨rfl, k⟩
    exact ⟨true, true, false, 0, 0, 0, 0, rfl, .inr ⟨rfl, by omega, by omega, by omega, .inr ⟨hl', .inr (.inr (.inl ⟨h3, rfl, rfl, rfl⟩))⟩⟩, k⟩
  cases hok : cOk s with
  | false =>
    refine (rRead_bad _ _ _ s w hl' hok h1 h2 h3).mono ?_
    rintro r w' ⟨rfl, k⟩
    exact ⟨false, false, false, 0, 0, 20, fltAt s, rfl, .inr ⟨rfl, by omega, by omega, by omega, .inr ⟨hl', .inr (.inr (.inr (.inr ⟨h1, h2, h3, hok, rfl, rfl, rfl⟩)))⟩⟩, k⟩
  | true =>
    cases hhx : cHx s with
    | false =>
      refine (rRead_dec _ _ _ Qf near_ok s w hl' hok hhx).mono ?_
      rintro r w' ⟨inf, M, E, rfl, hq, k⟩
      obtain ⟨b1, b2, b3, b4⟩ := rn_dec hl' hhx hq
      exact ⟨cNg s, inf, false, M, E, 0, 0, rfl, .inr ⟨rfl, b1, b2, b3, .inr ⟨hl', .inr (.inr (.inr (.inl ⟨hok, rfl, rfl, _, rfl, fun _ => b4, fun h => by rw [hhx] at h; cases h⟩)))⟩⟩, k⟩
    | true =>
      refine (rRead_hex _ _ _ Qf near_ok s w hl' hok hhx).mono ?_
      rintro r w' ⟨inf, M, E, rfl, hq, k⟩
      obtain ⟨b1, b2, b3, b4⟩ := rn_hex hl' hq
      exact ⟨cNg s, inf, false, M, E, 0, 0, rfl, .inr ⟨rfl, b1, b2, b3, .inr ⟨hl', .inr (.inr (.inr (.inl ⟨hok, rfl, rfl, _, rfl, fun h => by (rw [hhx] at h; cases h), fun _ => b4⟩)))⟩⟩, k⟩
theorem NB.oneZ {N D x y : Nat} (hD : 0 < D) (h : NB N D x) (g : NB N D y) : x = y := by
  rcases Nat.eq_zero_or_pos N with c | c
  · rw [h.1 c, g.1 c]
  · obtain ⟨E, hE⟩ := exE c hD
    rw [h.2 c E hE, g.2 c E hE]
/-- A text is read in one way. -/
theorem FR.one {s : List UInt8} {x e a x' e' a' : Nat} (h : FR s x e a) (g : FR s x' e' a') : x = x' ∧ e = e' ∧ a = a' := by
  rcases h with ⟨h0, rfl, rfl, rfl⟩ | ⟨h0, h⟩
  · rcases g with ⟨g0, rfl, rfl, rfl⟩ | ⟨g0, g⟩
    · exact ⟨rfl, rfl, rfl⟩
    · omega
  rcases g with ⟨g0, -⟩ | ⟨g0, g⟩
  · omega
  rcases h with ⟨hs, rfl, rfl, rfl⟩ | ⟨hs, rfl, rfl, rfl⟩ | ⟨hs, rfl, rfl, rfl⟩ | ⟨hs, rfl, rfl, y, rfl, hy1, hy2⟩ | ⟨hs1, hs2, hs3, hs, rfl, rfl, rfl⟩
  · rcases g with ⟨gs, rfl, rfl, rfl⟩ | ⟨gs, rfl, rfl, rfl⟩ | ⟨gs, rfl, rfl, rfl⟩ | ⟨gs, rfl, rfl, z, rfl, gz1, gz2⟩ | ⟨gs1, gs2, gs3, gs, rfl, rfl, rfl⟩
    · exact ⟨rfl, rfl, rfl⟩
    · exact absurd (hs.symm.trans gs) (by decide)
    · exact absurd (hs.symm.trans gs) (by decide)
    · exact absurd hs (not_word gs).1
    · exact absurd hs gs1
  · rcases g with ⟨gs, rfl, rfl, rfl⟩ | ⟨gs, rfl, rfl, rfl⟩ | ⟨gs, rfl, rfl, rfl⟩ | ⟨gs, rfl, rfl, z, rfl, gz1, gz2⟩ | ⟨gs1, gs2, gs3, gs, rfl, rfl, rfl⟩
    · exact absurd (hs.symm.trans gs) (by decide)
    · exact ⟨rfl, rfl, rfl⟩
    · exact absurd (hs.symm.trans gs) (by decide)
    · exact absurd hs (not_word gs).2.1
    · exact absurd hs gs2
  · rcases g with ⟨gs, rfl, rfl, rfl⟩ | ⟨gs, rfl, rfl, rfl⟩ | ⟨gs, rfl, rfl, rfl⟩ | ⟨gs, rfl, rfl, z, rfl, gz1, gz2⟩ | ⟨gs1, gs2, gs3, gs, rfl, rfl, rfl⟩
    · exact absurd (hs.symm.trans gs) (by decide)
    · exact absurd (hs.symm.trans gs) (by decide)
    · exact ⟨rfl, rfl, rfl⟩
    · exact absurd hs (not_word gs).2.2
    · exact absurd hs gs3
  · rcases g with ⟨gs, rfl, rfl, rfl⟩ | ⟨gs, rfl, rfl, rfl⟩ | ⟨gs, rfl, rfl, rfl⟩ | ⟨gs, rfl, rfl, z, rfl, gz1, gz2⟩ | ⟨gs1, gs2, gs3, gs, rfl, rfl, rfl⟩
    · exact absurd gs (not_word hs).1
    · exact absurd gs (not_word hs).2.1
    · exact absurd gs (not_word hs).2.2
    · refine ⟨?_, rfl, rfl⟩
      cases hhx : cHx s with
      | false => rw [NB.oneZ (Nat.pow_pos (by omega)) (hy1 hhx) (gz1 hhx)]
      | true => rw [NB.oneZ (Nat.pow_pos (by omega)) (hy2 hhx) (gz2 hhx)]
    · exact absurd (hs.symm.trans gs) (by decide)
  · rcases g with ⟨gs, rfl, rfl, rfl⟩ | ⟨gs, rfl, rfl, rfl⟩ | ⟨gs, rfl, rfl, rfl⟩ | ⟨gs, rfl, rfl, z, rfl, gz1, gz2⟩ | ⟨gs1, gs2, gs3, gs, rfl, rfl, rfl⟩
    · exact absurd gs hs1
    · exact absurd gs hs2
    · exact absurd gs hs3
    · exact absurd (hs.symm.trans gs) (by decide)
    · exact ⟨rfl, rfl, rfl⟩
end Go.Proofs.YtpdjpjkieafnbaaGreatDoor.Li.Nw
set_option linter.unusedVariables false
set_option linter.unusedSimpArgs false
namespace Go.Proofs.YtpdjpjkieafnbaaGreatDoor.Li
open Go.RowKit Lb Nr
theorem is_of {s : List UInt8} {x e a : Nat} (hF : FR s x e a) {ng inf nan : Bool} {M : Nat} {E : Int} {e' a' : Nat} (hG : RG s ng inf nan M E e' a') :
    e = e' ∧ a = a' ∧ ∀ wx, Calls Tryz.prog 15 #[.float .f64 x, .agg #[.bool ng, .bool inf, .bool nan, .int .u64 (M : Nat), .int .i64 E]] wx fun r w' => r = .returned (.bool true) ∧ Keep wx w' := by
  rcases hG with ⟨rfl, hs, rfl, rfl, rfl, rfl, rfl, rfl⟩ | ⟨rfl, hM, hE1, hE2, hF'⟩
  · have hl : s.length ≤ 4096 := by rw [hs]; simp
    obtain ⟨h1, h2, h3⟩ := hF.one (.inr ⟨hl, .inl ⟨hs, rfl, rfl, rfl⟩⟩)
    refine ⟨h2, h3, fun wx => ?_⟩
    rw [h1]
    exact is_nan wx
  · obtain ⟨h1, h2, h3⟩ := hF.one hF'
    exact ⟨h2, h3, fun wx => is_any x ng inf M E hM ⟨hE1, hE2⟩ h1 wx⟩
end Go.Proofs.YtpdjpjkieafnbaaGreatDoor.Li
namespace Go.Proofs.YtpdjpjkieafnbaaGreatDoor.Li.Nw
open Go.RowKit Lb Nr
theorem is_of {s : List UInt8} {x e a : Nat} (hF : FR s x e a) {ng inf nan : Bool} {M : Nat} {E : Int} {e' a' : Nat} (hG : RG s ng inf nan M E e' a') :
    e = e' ∧ a = a' ∧ ∀ wx, Calls Tryz.prog 18 #[.float .f32 x, .agg #[.bool ng, .bool inf, .bool nan, .int .u64 (M : Nat), .int .i64 E]] wx fun r w' => r = .returned (.bool true) ∧ Keep wx w' := by
  rcases hG with ⟨rfl, hs, rfl, rfl, rfl, rfl, rfl, rfl⟩ | ⟨rfl, hM, hE1, hE2, hF'⟩
  · have hl : s.length ≤ 4096 := by rw [hs]; simp
    obtain ⟨h1, h2, h3⟩ := hF.one (.inr ⟨hl, .inl ⟨hs, rfl, rfl, rfl⟩⟩)
    refine ⟨h2, h3, fun wx => ?_⟩
    rw [h1]
    exact is32_nan wx
  · obtain ⟨h1, h2, h3⟩ := hF.one hF'
    have hx : x < 4294967296 := by
      rw [h1]
      unfold nb sg
      repeat' split
      all_goals omega
    exact ⟨h2, h3, fun wx => is32_any x ng inf M E hM ⟨hE1, hE2⟩ hx h1 wx⟩
end Go.Proofs.YtpdjpjkieafnbaaGreatDoor.Li.Nw
namespace Go.Proofs.YtpdjpjkieafnbaaGreatDoor.Li
open Go.RowKit Lb Nr
set_option maxRecDepth 100000 in
set_option maxHeartbeats 2000000 in
/-- FloatsReads. -/
theorem law_freads (s : List UInt8) (w : World) :
    Calls Tryz.prog 3 #[.string ⟨s.toArray⟩] w fun e w' => e = .returned (.bool true) ∧ Keep w w' := by
  go_enter Tryz.func3, Tryz.ntmps3
  go_wp2_with fail
  refine (Read_all s _).mono ?_
  rintro r w1 ⟨x, e, a, rfl, hF, k1⟩
  go_wp2_with fail
  refine (Wide_any _).mono ?_
  rintro r w2 ⟨rfl, k2⟩
  go_wp2_with fail
  refine (rRead_all s _).mono ?_
  rintro r w3 ⟨ng, inf, nan, M, E, e', a', rfl, hG, k3⟩
  obtain ⟨rfl, rfl, hI⟩ := is_of hF hG
  have HK3 : Hid (Keep w w3) := (k1.trans k2).trans k3
  clear hF hG k1 k2 k3
  unfold numA
  obtain ⟨w4, hw4⟩ : ∃ w4, w3.alloc (.cells #[.bool ng, .bool inf, .bool nan, .int .u64 (M : Nat), .int .i64 E] 28) = w4 := ⟨_, rfl⟩
  have k34 : Keep w3 w4 := by rw [← hw4]; exact (Keep.refl w3).alloc _
  have N4 : B5 w4 w3.heap.size (.bool ng) (.bool inf) (.bool nan) (.int .u64 (M : Nat)) (.int .i64 E) := by rw [← hw4]; exact heap_alloc_new w3 _
  have HK4 : Hid (Keep w w4) := HK3.out.trans k34
  have HN4 : Hid (B5 w4 w3.heap.size (.bool ng) (.bool inf) (.bool nan) (.int .u64 (M : Nat)) (.int .i64 E)) := N4
  have hw3 : Hid (w.heap.size ≤ w3.heap.size) := HK3.out.size
  obtain ⟨c0, c1, c2, c3, c4⟩ := N4.five
  obtain ⟨f0, f1, f2, f3, f4⟩ := N4.frs
  have z1 : ((e : Int) != (e : Int)) = false := by simp
  have z2 : ((a : Int) != (a : Int)) = false := by simp
  clear N4 k34 HK3
  go_wp2_with (go_at_call 15; refine (hI _).mono ?_; rintro r w5 ⟨rfl, k5⟩)
  have HK5 : Hid (Keep w w5) := HK4.out.trans k5
  have HN5 : Hid (B5 w5 w3.heap.size (.bool ng) (.bool inf) (.bool nan) (.int .u64 (M : Nat)) (.int .i64 E)) := HN4.out.keep k5
  clear c0 c1 c2 c3 c4 f0 f1 f2 f3 f4 z1 z2 k5 hI HN4 HK4 hw4
  refine (Nw.Read_all s _).mono ?_
  rintro r w6 ⟨y, e2, a2, rfl, hF, k6⟩
  go_wp2_with fail
  refine (Nw.Narrow_any _).mono ?_
  rintro r w7 ⟨rfl, k7⟩
  go_wp2_with fail
  refine (Nw.rRead_all s _).mono ?_
  rintro r w8 ⟨ng2, inf2, nan2, M2, E2, e3, a3, rfl, hG, k8⟩
  obtain ⟨rfl, rfl, hI⟩ := Nw.is_of hF hG
  have k58 := (k6.trans k7).trans k8
  have HK8 : Hid (Keep w w8) := HK5.out.trans k58
  have N8 := HN5.out.keep k58
  clear hF hG k6 k7 k8 k58 HK5 HN5
  unfold numA
  obtain ⟨w9, hw9⟩ : ∃ w9, (((((w8.setCell ⟨w3.heap.size, 0, none⟩ (.bool ng2)).setCell ⟨w3.heap.size, 1, none⟩ (.bool inf2)).setCell ⟨w3.heap.size, 2, none⟩ (.bool nan2)).setCell ⟨w3.heap.size, 3, none⟩ (.int .u64 (M2 : Nat))).setCell ⟨w3.heap.size, 4, none⟩ (.int .i64 E2)) = w9 := ⟨_, rfl⟩
  have N9 : B5 w9 w3.heap.size (.bool ng2) (.bool inf2) (.bool nan2) (.int .u64 (M2 : Nat)) (.int .i64 E2) := by rw [← hw9]; exact N8.all _ _ _ _ _
  have HK9 : Hid (Keep w w9) := by rw [← hw9]; exact HK8.out.all5 hw3.out _ _ _ _ _
  obtain ⟨c0, c1, c2, c3, c4⟩ := N8.five
  obtain ⟨f0, f1, f2, f3, f4⟩ := N8.frs
  obtain ⟨d0, d1, d2, d3, d4⟩ := N9.five
  have z1 : ((e2 : Int) == (e2 : Int)) = true := by simp
  have z2 : ((a2 : Int) == (a2 : Int)) = true := by simp
  clear N8 N9 HK8
  go_wp2_with (go_at_call 18; refine (hI _).mono ?_; rintro r w10 ⟨rfl, k10⟩)
  go_ret
  exact ⟨rfl, HK9.out.trans k10⟩
end Go.Proofs.YtpdjpjkieafnbaaGreatDoor.Li
set_option linter.unusedVariables false
set_option linter.unusedSimpArgs false
namespace Go.Proofs.YtpdjpjkieafnbaaGreatDoor
open Go.ChangeShapes Go.WideShapes Go.ChangeAt Go.RowKit
theorem own : ownKnob Tryz.prog.godebug = none := by kernel_rfl
theorem laidOut : laidOutB Tryz.prog = true := by kernel_rfl
/-- A world in which the two tables hold what the texts lay. -/
def lay0 (W : World) : World :=
  { W with heap := (W.heap.modify 4 fun o => match o with
      | .cells _ t frozen => .cells (Go.Pinned.utf8FirstZ.map (fun n : Nat => Value.int .u8 (n : Int))).toArray t frozen
      | o => o).modify 5 fun o => match o with
      | .cells _ t frozen => .cells #[.int .u8 128, .int .u8 191, .int .u8 160, .int .u8 191, .int .u8 128, .int .u8 159, .int .u8 144, .int .u8 191, .int .u8 128, .int .u8 143, .int .u8 0, .int .u8 0, .int .u8 0, .int .u8 0, .int .u8 0, .int .u8 0, .int .u8 0, .int .u8 0, .int .u8 0, .int .u8 0, .int .u8 0, .int .u8 0, .int .u8 0, .int .u8 0, .int .u8 0, .int .u8 0, .int .u8 0, .int .u8 0, .int .u8 0, .int .u8 0, .int .u8 0, .int .u8 0] t frozen
      | o => o }
end Go.Proofs.YtpdjpjkieafnbaaGreatDoor
