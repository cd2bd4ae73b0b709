import Derived.Test.YtaogjiffnebnkaaProg
import Derived.Test.YtaogjiffnebnkaaKYT5
import Derived.Test.YtaogjiffnebnkaaKYT6
import Derived.Test.YtaogjiffnebnkaaKYU1
import Derived.Test.YtaogjiffnebnkaaKYMM
import Derived.Test.YtaogjiffnebnkaaKM1
import Derived.Test.YtaogjiffnebnkaaKM2
import Derived.Test.YtaogjiffnebnkaaKM3
import Derived.WalkKit
import Derived.WalkSpells
import Derived.WalkLawsBesides
import Derived.Deep.Draws
import Derived.Deep.QuietTactic
import Derived.BigQuiet
import Derived.Laws.Externs
import Derived.Laws.CopyOwn
set_option linter.unusedVariables false
set_option linter.unusedSimpArgs false
namespace Go.Proofs.Ytaogjiffnebnkaa.Mk
open Go.RowKit
/-- A node as a value. -/
def Nd.v (n : Nd) (ca : Option Addr) (cap : Nat) : Value := .agg #[.int .u8 n.kd, .int .i64 n.vl, .int .i64 n.ft, .float .f64 n.th, .slice ca n.cs.length cap, .int .u8 n.ms, .int .i64 n.lf, .int .i64 n.rt]
end Go.Proofs.Ytaogjiffnebnkaa.Mk
set_option linter.unusedVariables false
set_option linter.unusedSimpArgs false
namespace Go.Proofs.Ytaogjiffnebnkaa.Mk
open Go.RowKit
end Go.Proofs.Ytaogjiffnebnkaa.Mk
set_option linter.unusedVariables false
set_option linter.unusedSimpArgs false
namespace Go.Proofs.Ytaogjiffnebnkaa.Mk
/-- Going down by a choice. -/
def path (t : Sh) (c : Nat → Bool) : Nat → Nat → List Nat
  | 0, i => [i]
  | f + 1, i => if t.K i = true then i :: path t c f (if c i = true then t.A i else t.B i) else [i]
def way (t : Sh) (c : Nat → Bool) (n : Nat) : List Nat := path t c (n - 1) 0
end Go.Proofs.Ytaogjiffnebnkaa.Mk
set_option linter.unusedVariables false
set_option linter.unusedSimpArgs false
namespace Go.Proofs.Ytaogjiffnebnkaa.Mk
end Go.Proofs.Ytaogjiffnebnkaa.Mk
set_option linter.unusedVariables false
set_option linter.unusedSimpArgs false
namespace Go.Proofs.Ytaogjiffnebnkaa.Mk
def BT.inn : BT → List Nat
  | .leaf _ => []
  | .node i l r => i :: (l.inn ++ r.inn)
/-- Each node with the first leaf below it. -/
def BT.fr : BT → Nat → List (Nat × Nat)
  | .leaf i, a => [(i, a)]
  | .node i l r, a => (i, a) :: (l.fr a ++ r.fr (a + l.nl))
theorem BT.fr_pre (b : BT) : ∀ a, (b.fr a).map (·.1) = b.pre := by
  induction b with
  | leaf i => intro a; rfl
  | node i l r hl hr => intro a; simp [BT.fr, BT.pre, hl, hr]
/-- Where the two below a node begin. -/
theorem Bt.fr_next {t : Sh} {b : BT} {i : Nat} (h : Bt t b i) : ∀ a, ∀ x ∈ b.fr a, t.K x.1 = true → ∃ l, Bt t l (t.A x.1) ∧ (t.A x.1, x.2) ∈ b.fr a ∧ (t.B x.1, x.2 + l.nl) ∈ b.fr a := by
  have top : ∀ {b : BT} {i : Nat}, Bt t b i → ∀ a, (i, a) ∈ b.fr a := by
    intro b i h a
    cases h with
    | leaf h => simp [BT.fr]
    | node h hl hr => simp [BT.fr]
  induction h with
  | leaf h =>
    intro a x hx hK
    simp only [BT.fr, List.mem_singleton] at hx
    subst hx
    rw [h] at hK; cases hK
  | @node i l r h hl hr il ir =>
    intro a x hx hK
    simp only [BT.fr, List.mem_cons, List.mem_append] at hx ⊢
    rcases hx with rfl | hx | hx
    · exact ⟨l, hl, .inr (.inl (top hl a)), .inr (.inr (top hr _))⟩
    · obtain ⟨k, h1, h2, h3⟩ := il a x hx hK; exact ⟨k, h1, .inr (.inl h2), .inr (.inl h3)⟩
    · obtain ⟨k, h1, h2, h3⟩ := ir _ x hx hK; exact ⟨k, h1, .inr (.inr h2), .inr (.inr h3)⟩
/-- Lists of pairs whose first parts never repeat have one second part for each. -/
theorem assoc_one {l : List (Nat × Nat)} (h : (l.map (·.1)).Nodup) {i a c : Nat} (h1 : (i, a) ∈ l) (h2 : (i, c) ∈ l) : a = c := by
  induction l with
  | nil => simp at h1
  | cons x l ih =>
    simp only [List.map_cons, List.nodup_cons, List.mem_map, not_exists, not_and] at h
    rcases List.mem_cons.1 h1 with e1 | e1
    · rcases List.mem_cons.1 h2 with e2 | e2
      · rw [← e1] at e2; cases e2; rfl
      · exact absurd (by rw [← e1]) (h.1 _ e2)
    · rcases List.mem_cons.1 h2 with e2 | e2
      · exact absurd (by rw [← e2]) (h.1 _ e1)
      · exact ih h.2 e1 e2
end Go.Proofs.Ytaogjiffnebnkaa.Mk
