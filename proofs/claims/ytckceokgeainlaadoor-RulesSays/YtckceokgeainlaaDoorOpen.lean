import Derived.Test.YtckceokgeainlaaDoorCards
import Derived.Test.YtckceokgeainlaaDoorTie
import Derived.Test.YtckceokgeainlaaDoorS1
import Derived.ProofKit
import Derived.OpenShut
import Derived.SizedLaws
import Derived.Deep.DeepHandedRow
import Derived.Deep.Strs
import Derived.Lib.LaidTab
set_option linter.unusedVariables false
set_option linter.unusedSimpArgs false
namespace Go.Proofs.YtckceokgeainlaaDoor
open Go.ChangeShapes Go.WideShapes Go.ChangeAt Go.RowKit
theorem own : ownKnob Tryd.prog.godebug = none := by kernel_rfl
theorem laidOut : laidOutB Tryd.prog = true := by kernel_rfl
theorem cells28 : Tryd.prog.cellsOf 28 = 1 := by kernel_rfl
theorem cells3 : Tryd.prog.cellsOf 3 = 1 := by kernel_rfl
theorem cells30 : Tryd.prog.cellsOf 30 = 3 := by kernel_rfl
theorem gpow : Tryd.prog.globalNamed "internal/strconv.uint64pow10" = some 2 := by kernel_rfl
theorem lpow : (Rows.laid_internal_strconv_uint64pow10 : DataW Unit) = Lib.tabData .u64 Lib.pow10Tab := by kernel_rfl
theorem laid_tail {P : Program} {w : World} {x : String × DataW Unit} {rest : List (String × DataW Unit)} {ps : List MemPlace} (h : DataW.LaidVars P w (x :: rest) ps) : ∃ qs, DataW.LaidVars P w rest qs := by
  obtain ⟨g, t, cs, fuel, p, q, hg, ht, hv, hd, hr, hq⟩ := h
  exact ⟨q, hr⟩
/-- The library's table, from what the row says of it. -/
theorem pow_of {W : World} {ps : List MemPlace} {rest : List (String × DataW Unit)} (h : DataW.LaidVars Tryd.prog W (("internal/strconv.uint64pow10", Rows.laid_internal_strconv_uint64pow10) :: rest) ps) : Pw10 W := by
  rw [lpow] at h
  obtain ⟨g', t', cs, fuel, p, q, hg', ht', hvar, hd, _, _⟩ := h
  obtain rfl := Option.some.inj (gpow.symm.trans hg')
  obtain rfl := Option.some.inj ((show (Tryd.prog.globals[2]?).map (·.type) = some 156 by kernel_rfl).symm.trans ht')
  unfold Pw10 Lib.TabIs
  rw [hvar, ← Lib.cells_of_tab Tryd.underlying156 Tryd.underlying39 (by kernel_rfl) (by kernel_rfl) hd]
/-- A table's cells, as the row says them. -/
def tabCells : DataW Unit → Array Value
  | .agg l => (l.map fun d => match d with
      | .lit (.int k z) => Value.int k z
      | _ => undef).toArray
  | _ => #[]
def layAt (g : Nat) (d : DataW Unit) (W : World) : World :=
  { W with heap := W.heap.modify g fun o => match o with
      | .cells _ t frozen => .cells (tabCells d) t frozen
      | o => o }
set_option maxRecDepth 100000 in
/-- An argument that is a broken rule, opened. -/
theorem open_broken {H : Type} {enc : TypeId × Value → H} {W : World} {base : Nat} {v : Value} {d : DataW H} {p : List MemPlace} (hv : Value.okWide Tryd.prog W .any base 30 v) (h : DataW.Trod enc Tryd.prog W 0 (fun _ => true) true 30 v d p) :
    ∃ r t n : Int, v = .agg #[.int .i64 r, .int .i64 t, .int .i64 n] ∧ (-9223372036854775808 ≤ r ∧ r ≤ 9223372036854775807) ∧ (-9223372036854775808 ≤ t ∧ t ≤ 9223372036854775807) ∧ (-9223372036854775808 ≤ n ∧ n ≤ 9223372036854775807) := by
  obtain ⟨cs, rfl, hcs⟩ := okWide_struct Tryd.underlying30 hv
  rw [cells30] at hcs
  obtain ⟨fuel, hf⟩ := h
  obtain ⟨y0, y1, y2, n, hx, -, t0, t1, t2⟩ := Go.Deep.trod_struct3 Tryd.underlying30 hf
  obtain ⟨l⟩ := cs
  simp only [List.size_toArray] at hcs
  match l, hcs with
  | [c0, c1, c2], _ =>
    simp only [cells28, cells3, Value.cells] at t0 t1 t2
    obtain ⟨r, e0, -, b0⟩ := DataW.trod_int Tryd.underlying28 t0
    obtain ⟨t, e1, -, b1⟩ := DataW.trod_int Tryd.underlying3 t1
    obtain ⟨m, e2, -, b2⟩ := DataW.trod_int Tryd.underlying3 t2
    have k0 := bounds_i64 b0
    have k1 := bounds_i64 b1
    have k2 := bounds_i64 b2
    refine ⟨r, t, m, ?_, by omega, by omega, by omega⟩
    simp at e0 e1 e2
    rw [e0, e1, e2]
end Go.Proofs.YtckceokgeainlaaDoor
