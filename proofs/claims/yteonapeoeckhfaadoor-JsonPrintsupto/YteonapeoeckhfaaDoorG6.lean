import Derived.Test.YteonapeoeckhfaaDoorG2
set_option linter.unusedVariables false
set_option linter.unusedSimpArgs false
namespace Go.Proofs.YteonapeoeckhfaaDoor
open Go.RowKit
theorem eqL_true {a b : List J} (h : a = b) : eqD a b (Classical.propDecidable _) = true := by unfold eqD; simp [h]
theorem eqL_false {a b : List J} (h : a ≠ b) : eqD a b (Classical.propDecidable _) = false := by unfold eqD; simp [h]
theorem RdV.shape {w : World} {A0 A1 A2 A3 : Value} {j : J} (h : RdV w (.agg #[A0, A1, A2, A3]) j) : ∃ (k : Nat) (t : ByteArray) (an : Option Addr) (n cn : Nat) (ai : Option Addr) (m ci : Nat), A0 = .int .u8 (k : Nat) ∧ A1 = .string t ∧ A2 = .slice an n cn ∧ A3 = .slice ai m ci := by
  generalize hv : Value.agg #[A0, A1, A2, A3] = v at h
  cases h with
  | mk k t ns is an cn ai ci X hk hn ln li hx hr =>
    simp only [Value.agg.injEq, Array.mk.injEq, List.cons.injEq, and_true] at hv
    obtain ⟨rfl, rfl, rfl, rfl⟩ := hv
    exact ⟨k, t, an, ns.length, cn, ai, is.length, ci, rfl, rfl, rfl, rfl⟩


end Go.Proofs.YteonapeoeckhfaaDoor
set_option linter.unusedVariables false
set_option linter.unusedSimpArgs false
namespace Go.Proofs.YteonapeoeckhfaaDoor
open Go.RowKit
/-- As RdV, with a set that holds all blocks that are read. -/
inductive RdW (w : World) (S : Nat → Prop) : Value → J → Prop where
  | mk (k : Nat) (t : ByteArray) (ns : List ByteArray) (is : List J) (an : Option Addr) (cn : Nat) (ai : Option Addr) (ci : Nat) (X : Nat → Value × Value × Value × Value)
      (hk : k < 256) (hn : RdS w an ns) (sn : ∀ b o, an = some ⟨b, o, none⟩ → ns ≠ [] → S b) (ln : ns.length ≤ 140737488355328) (li : is.length ≤ 140737488355328)
      (hx : ∀ i, i < is.length → ∃ b o, ai = some ⟨b, o, none⟩ ∧ S b ∧ w.cell? ⟨b, o + i * 4, none⟩ = some (X i).1 ∧ w.cell? ⟨b, o + i * 4 + 1, none⟩ = some (X i).2.1 ∧ w.cell? ⟨b, o + i * 4 + 2, none⟩ = some (X i).2.2.1 ∧ w.cell? ⟨b, o + i * 4 + 3, none⟩ = some (X i).2.2.2)
      (hr : ∀ i, i < is.length → RdW w S (.agg #[(X i).1, (X i).2.1, (X i).2.2.1, (X i).2.2.2]) (is.getD i j0)) :
      RdW w S (.agg #[.int .u8 (k : Nat), .string t, .slice an ns.length cn, .slice ai is.length ci]) (.mk k t ns is)
theorem RdW.rdv {w : World} {S : Nat → Prop} {v : Value} {j : J} (h : RdW w S v j) : RdV w v j := by
  induction h with
  | mk kk t ns is an cn ai ci X hk hn sn ln li hx hr ih =>
    refine RdV.mk kk t ns is an cn ai ci X hk hn ln li ?_ ih
    intro i hi
    obtain ⟨b, o, e, _, h1, h2, h3, h4⟩ := hx i hi
    exact ⟨b, o, e, h1, h2, h3, h4⟩
/-- What is read stays where its blocks stay. -/
theorem RdW.same {w w' : World} {S S' : Nat → Prop} {v : Value} {j : J} (h : RdW w S v j) (hs : ∀ b, S b → w'.heap[b]? = w.heap[b]?) (hS : ∀ b, S b → S' b) : RdW w' S' v j := by
  have hcell : ∀ (b o : Nat) (v : Value), S b → w.cell? ⟨b, o, none⟩ = some v → w'.cell? ⟨b, o, none⟩ = some v := by
    intro b o v hb hc
    rw [← hc]
    simp only [World.cell?, hs b hb]
  induction h with
  | mk kk t ns is an cn ai ci X hk hn sn ln li hx hr ih =>
    refine RdW.mk kk t ns is an cn ai ci X hk ?_ (fun b o e hne => hS b (sn b o e hne)) ln li ?_ ih
    · intro j hj
      obtain ⟨b, o, e, hc⟩ := hn j hj
      exact ⟨b, o, e, hcell b _ _ (sn b o e (by intro h; rw [h] at hj; simp at hj)) hc⟩
    · intro i hi
      obtain ⟨b, o, e, hb, h1, h2, h3, h4⟩ := hx i hi
      exact ⟨b, o, e, hS b hb, hcell b _ _ hb h1, hcell b _ _ hb h2, hcell b _ _ hb h3, hcell b _ _ hb h4⟩
end Go.Proofs.YteonapeoeckhfaaDoor
