import Derived.Test.YtjiflgdbgpegiaaSB8
import Derived.Test.YtjiflgdbgpegiaaSB9
set_option linter.unusedVariables false
set_option linter.unusedSimpArgs false
namespace Go.Proofs.Ytjiflgdbgpegiaa
open Go.RowKit
theorem sym_all (g c n : Nat) (hl : n ≤ 17592186044416) : ∀ k, SymI g c n k := by
  intro k
  induction k with
  | zero => intro a m b P A B Q w h; omega
  | succ k ih =>
    intro a m b P A B Q w hk hA1 hB1 hF hn ha hm hb s1 s2 hA
    by_cases h1 : A.length = 1
    · obtain ⟨x, rfl⟩ : ∃ x, A = [x] := List.length_eq_one_iff.1 h1
      have h := sym_left g c n a m b x P B Q w hF hn hl ha (by simpa using hm) hb (by assumption) hA
      unfold SymP
      refine h.mono ?_
      rintro e w' ⟨p1, ⟨M, q1, q2, q3, q4⟩, p3⟩
      exact ⟨p1, ⟨M, by simp; omega, q2, q3, q4⟩, p3⟩
    · by_cases h2 : B.length = 1
      · obtain ⟨y, rfl⟩ : ∃ y, B = [y] := List.length_eq_one_iff.1 h2
        have h := sym_right g c n a m b y P A Q w hF hn hl ha hm (by simpa using hb) h1 s1 hA
        unfold SymP
        refine h.mono ?_
        rintro e w' ⟨p1, ⟨M, q1, q2, q3, q4⟩, p3⟩
        exact ⟨p1, ⟨M, by simp; omega, q2, q3, q4⟩, p3⟩
      · have IH : SymI g c n (A.length + B.length) := fun a' m' b' P' A' B' Q' w' hk' => ih a' m' b' P' A' B' Q' w' (by omega)
        by_cases h3 : (A.length + B.length) / 2 < A.length
        · exact sym_high g c n a m b P A B Q w IH hF hn hl ha hm hb (by omega) (by omega) h3 s1 s2 hA
        · exact sym_low g c n a m b P A B Q w IH hF hn hl ha hm hb (by omega) (by omega) (by omega) s1 s2 hA
/-- Two stretches merged. -/
theorem sym_any (g c n a m b : Nat) (P A B Q : List Nat) (w : World) (hl : n ≤ 17592186044416) (hA1 : 1 ≤ A.length) (hB1 : 1 ≤ B.length) (hF : F64 (P ++ (A ++ (B ++ Q)))) (hn : (P ++ (A ++ (B ++ Q))).length = n) (ha : P.length = a) (hm : a + A.length = m) (hb : m + B.length = b) (s1 : srt kI A) (s2 : srt kI B) (hA : Arr w g (P ++ (A ++ (B ++ Q)))) : SymP g c n a m b P A B Q w :=
  sym_all g c n hl (A.length + B.length + 1) a m b P A B Q w (by omega) hA1 hB1 hF hn ha hm hb s1 s2 hA
/-- A list of stretches that are sorted, each of the same length but the last. -/
inductive Cb (bs : Nat) : List Nat → Prop where
  | last (R : List Nat) (h : R.length < bs) (s : srt kI R) : Cb bs R
  | cons (M Y : List Nat) (h : M.length = bs) (s : srt kI M) (r : Cb bs Y) : Cb bs (M ++ Y)
theorem Cb.first {bs : Nat} {Y : List Nat} (h : Cb bs Y) (hl : bs ≤ Y.length) : ∃ M Z, Y = M ++ Z ∧ M.length = bs ∧ srt kI M ∧ Cb bs Z := by
  cases h with
  | last R h s => omega
  | cons M Z h s r => exact ⟨M, Z, rfl, h, s, r⟩
theorem Cb.small {bs : Nat} {Y : List Nat} (h : Cb bs Y) (hl : Y.length ≤ bs) : srt kI Y := by
  cases h with
  | last R h s => exact s
  | cons M Z h s r =>
    have : Z = [] := List.eq_nil_of_length_eq_zero (by simp at hl; omega)
    subst this
    simpa using s
theorem F64.eqv {X Y : List Nat} (h : F64 X) (he : eqv kI Y X) : F64 Y := fun x hx => h x (he.mem hx)
theorem ins_parts (g c n a b : Nat) (P X Q : List Nat) (w : World) (hF : F64 (P ++ (X ++ Q))) (hn : (P ++ (X ++ Q)).length = n) (hl : n ≤ 17592186044416) (ha : P.length = a) (hb : a + X.length = b) (hA : Arr w g (P ++ (X ++ Q))) :
    Calls Try.prog 78 #[.slice (some ⟨g, 0, none⟩) n c, .int .i64 (a : Int), .int .i64 (b : Int), cmpF] w fun e w' => (∃ v, e = .returned v) ∧ (∃ M, M.length = X.length ∧ srt kI M ∧ eqv kI M X ∧ Arr w' g (P ++ (M ++ Q))) ∧ Oth g w w' := by
  have h := insertion_any g c P X Q w hF (by rw [hn]; exact hl) hA
  rw [hn, ha, hb] at h
  exact h
end Go.Proofs.Ytjiflgdbgpegiaa
