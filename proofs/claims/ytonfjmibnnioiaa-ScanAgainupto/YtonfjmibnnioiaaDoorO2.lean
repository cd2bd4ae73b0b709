import Derived.Test.YtonfjmibnnioiaaDoorO1
set_option linter.unusedVariables false
set_option linter.unusedSimpArgs false
namespace Go.Proofs.YtonfjmibnnioiaaDoor
open Go.ChangeShapes Go.WideShapes Go.ChangeAt Go.RowKit
/-- The table of kinds where it stands second. -/
theorem tab_of2 {W : World} {n : String} {d : DataW Unit} {L : List (String × DataW Unit)} (h : laidMet Tryd.prog ((n, d) :: ("thicket/scan.kinds", Rows.laid_thicket_scan_kinds) :: L) W) : Kt W := by
  rw [ltab] at h
  obtain ⟨ps, ⟨_, _, _, _, _, q, _, _, _, _, ⟨g', t', cs, fuel, p', q', hg', ht', hvar, hd, _, _⟩, _⟩, _⟩ := h
  obtain rfl := Option.some.inj (gtab.symm.trans hg')
  have hty : (Tryd.prog.globals[0]?).map (·.type) = some 75 := by kernel_rfl
  obtain rfl := Option.some.inj (hty.symm.trans ht')
  have h1 : Lib.TabIs Tryd.prog W "thicket/scan.kinds" .u8 (kdL.map fun n : Nat => (n : Int)) := by
    unfold Lib.TabIs
    rw [hvar, ← Lib.cells_of_tab Tryd.underlying75 Tryd.underlying50 (by kernel_rfl) (by kernel_rfl) hd]
  intro j hj
  have hl : j < kdL.length := hj
  have := h1.cell gtab j (by simpa using hl)
  rw [this]
  simp [List.getD, hl, kdN]
/-- A world in which all three tables hold what the texts lay. -/
def lay3 (W : World) : World :=
  { W with heap := ((W.heap.modify 0 fun o => match o with
      | .cells _ t frozen => .cells (kdL.map (fun n : Nat => Value.int .u8 (n : Int))).toArray t frozen
      | o => o).modify 2 fun o => match o with
      | .cells _ t frozen => .cells (Pinned.utf8FirstZ.map (fun n : Nat => Value.int .u8 (n : Int))).toArray t frozen
      | o => o).modify 3 fun o => match o with
      | .cells _ t frozen => .cells (([128, 191, 160, 191, 128, 159, 144, 191, 128, 143] ++ List.replicate 22 0).map (fun n : Nat => Value.int .u8 (n : Int))).toArray t frozen
      | o => o }
/-- A byte that is handed in. -/
theorem byte_of {n : Int} (h : (Lit.int .u8 n).wf = true) : ∃ y : UInt8, n = (y.toNat : Nat) := by
  have hb : 0 ≤ n ∧ n < 256 := by
    simp only [Lit.wf, IntKind.min, IntKind.max, IntKind.signed, IntKind.bits, Bool.and_eq_true, decide_eq_true_eq] at h
    simp at h
    omega
  refine ⟨UInt8.ofNat n.toNat, ?_⟩
  simp
  omega
end Go.Proofs.YtonfjmibnnioiaaDoor
