import Derived.Test.YtjiflgdbgpegiaaSB6
set_option linter.unusedVariables false
set_option linter.unusedSimpArgs false
namespace Go.Proofs.Ytjiflgdbgpegiaa
open Go.RowKit
/-- What a merge of two stretches answers. -/
def SymP (g c n a m b : Nat) (P A B Q : List Nat) (w : World) : Prop :=
  Calls Try.prog 79 #[.slice (some ⟨g, 0, none⟩) n c, .int .i64 (a : Int), .int .i64 (m : Int), .int .i64 (b : Int), cmpF] w fun e w' => (∃ v, e = .returned v) ∧ (∃ M, M.length = A.length + B.length ∧ srt kI M ∧ eqv kI M (A ++ B) ∧ Arr w' g (P ++ (M ++ Q))) ∧ Oth g w w'
/-- It answers so for whatever is shorter. -/
def SymI (g c n k : Nat) : Prop := ∀ (a m b : Nat) (P A B Q : List Nat) (w : World), A.length + B.length < k → 1 ≤ A.length → 1 ≤ B.length → F64 (P ++ (A ++ (B ++ Q))) → (P ++ (A ++ (B ++ Q))).length = n → P.length = a → a + A.length = m → m + B.length = b → srt kI A → srt kI B → Arr w g (P ++ (A ++ (B ++ Q))) → SymP g c n a m b P A B Q w
theorem F64.to {X Y : List Nat} (h : F64 X) (hs : ∀ x ∈ Y, x ∈ X) : F64 Y := fun x hx => h x (hs x hx)
theorem srt_app {A B : List Nat} (h : A = [] ∨ B = []) (hA : srt kI A) (hB : srt kI B) : srt kI (A ++ B) := by
  rcases h with rfl | rfl
  · simpa using hB
  · simpa using hA
/-- The rotation of the middle. -/
theorem sym_rot (g c n st m en : Nat) (P A1 A2 B1 B2 Q : List Nat) (w : World) (hn : (P ++ ((A1 ++ A2) ++ ((B1 ++ B2) ++ Q))).length = n) (hl : n ≤ 17592186044416) (hst : P.length + A1.length = st) (hm : st + A2.length = m) (hen : m + B1.length = en) (h1 : 1 ≤ A2.length) (h2 : 1 ≤ B1.length) (hA : Arr w g (P ++ ((A1 ++ A2) ++ ((B1 ++ B2) ++ Q)))) :
    Calls Try.prog 89 #[.slice (some ⟨g, 0, none⟩) n c, .int .i64 (st : Int), .int .i64 (m : Int), .int .i64 (en : Int), cmpF] w fun e w' => (∃ v, e = .returned v) ∧ Arr w' g (P ++ (A1 ++ (B1 ++ (A2 ++ (B2 ++ Q))))) ∧ Oth g w w' := by
  have e : P ++ ((A1 ++ A2) ++ ((B1 ++ B2) ++ Q)) = (P ++ A1) ++ (A2 ++ (B1 ++ (B2 ++ Q))) := by simp only [List.append_assoc]
  rw [e] at hn hA
  have h := rotate_any g c n st m en (P ++ A1) A2 B1 (B2 ++ Q) w hn hl (by simp; omega) hm hen h1 h2 hA
  have e2 : P ++ (A1 ++ (B1 ++ (A2 ++ (B2 ++ Q)))) = (P ++ A1) ++ (B1 ++ (A2 ++ (B2 ++ Q))) := by simp only [List.append_assoc]
  rw [e2]
  exact h
theorem sym_norot {g : Nat} {P A1 A2 B1 B2 Q : List Nat} {w : World} (h : A2 = [] ∨ B1 = []) (hA : Arr w g (P ++ ((A1 ++ A2) ++ ((B1 ++ B2) ++ Q)))) : Arr w g (P ++ (A1 ++ (B1 ++ (A2 ++ (B2 ++ Q))))) := by
  rcases h with rfl | rfl
  · simpa only [List.append_assoc, List.nil_append, List.append_nil] using hA
  · simpa only [List.append_assoc, List.nil_append, List.append_nil] using hA
/-- The first half merged. -/
theorem sym_one (g c n k a st md : Nat) (P A1 A2 B1 B2 Q : List Nat) (w : World) (IH : SymI g c n k) (hk : A1.length + B1.length < k) (hF : F64 (P ++ ((A1 ++ A2) ++ ((B1 ++ B2) ++ Q)))) (hn : (P ++ ((A1 ++ A2) ++ ((B1 ++ B2) ++ Q))).length = n) (ha : P.length = a) (hst : a + A1.length = st) (hmd : st + B1.length = md) (h1 : 1 ≤ A1.length) (h2 : 1 ≤ B1.length) (s1 : srt kI (A1 ++ A2)) (s2 : srt kI (B1 ++ B2)) (hA : Arr w g (P ++ (A1 ++ (B1 ++ (A2 ++ (B2 ++ Q)))))) :
    SymP g c n a st md P A1 B1 (A2 ++ (B2 ++ Q)) w :=
  IH a st md P A1 B1 (A2 ++ (B2 ++ Q)) w hk h1 h2 (hF.to fun x hx => by simp only [List.mem_append] at hx; rcases hx with h | h | h | h | h | h <;> simp [h]) (by rw [← hn]; simp; omega) ha hst hmd (List.pairwise_append.1 s1).1 (List.pairwise_append.1 s2).1 hA
/-- The second half merged. -/
theorem sym_two (g c n k a md en b : Nat) (P A1 A2 B1 B2 Q M1 : List Nat) (w : World) (IH : SymI g c n k) (hk : A2.length + B2.length < k) (hF : F64 (P ++ ((A1 ++ A2) ++ ((B1 ++ B2) ++ Q)))) (hn : (P ++ ((A1 ++ A2) ++ ((B1 ++ B2) ++ Q))).length = n) (hM : M1.length = A1.length + B1.length) (he : eqv kI M1 (A1 ++ B1)) (ha : P.length + A1.length + B1.length = md) (hst : md + A2.length = en) (hmd : en + B2.length = b) (h1 : 1 ≤ A2.length) (h2 : 1 ≤ B2.length) (s1 : srt kI (A1 ++ A2)) (s2 : srt kI (B1 ++ B2)) (hA : Arr w g (P ++ (M1 ++ (A2 ++ (B2 ++ Q))))) :
    SymP g c n md en b (P ++ M1) A2 B2 Q w := by
  have e : P ++ (M1 ++ (A2 ++ (B2 ++ Q))) = (P ++ M1) ++ (A2 ++ (B2 ++ Q)) := by simp only [List.append_assoc]
  rw [e] at hA
  refine IH md en b (P ++ M1) A2 B2 Q w hk h1 h2 (hF.to fun x hx => ?_) (by rw [← hn]; simp; omega) (by simp; omega) hst hmd (List.pairwise_append.1 s1).2.1 (List.pairwise_append.1 s2).2.1 hA
  simp only [List.mem_append] at hx
  rcases hx with (h | h) | h | h | h
  · simp [h]
  · have := he.mem h
    rcases List.mem_append.1 this with h | h <;> simp [h]
  · simp [h]
  · simp [h]
  · simp [h]
/-- Both halves merged. -/
theorem sym_end {g : Nat} {P A1 A2 B1 B2 Q M1 M2 : List Nat} {w : World} (s1 : srt kI (A1 ++ A2)) (s2 : srt kI (B1 ++ B2)) (h1 : ∀ x ∈ A1, ∀ y ∈ B2, kI x ≤ kI y) (h2 : ∀ x ∈ A2, ∀ y ∈ B1, kI y < kI x) (l1 : M1.length = A1.length + B1.length) (q1 : srt kI M1) (e1 : eqv kI M1 (A1 ++ B1)) (l2 : M2.length = A2.length + B2.length) (q2 : srt kI M2) (e2 : eqv kI M2 (A2 ++ B2)) (hA : Arr w g ((P ++ M1) ++ (M2 ++ Q))) :
    ∃ M, M.length = (A1 ++ A2).length + (B1 ++ B2).length ∧ srt kI M ∧ eqv kI M ((A1 ++ A2) ++ (B1 ++ B2)) ∧ Arr w g (P ++ (M ++ Q)) := by
  obtain ⟨p1, p2⟩ := merged s1 s2 h1 h2 e1 q1 e2 q2
  exact ⟨M1 ++ M2, by simp; omega, p1, p2, by simpa only [List.append_assoc] using hA⟩
end Go.Proofs.Ytjiflgdbgpegiaa
