import Derived.Test.YtonfjmibnnioiaaDoorX4
import Derived.Laws.StructEq
set_option linter.unusedVariables false
set_option linter.unusedSimpArgs false
namespace Go.Proofs.YtonfjmibnnioiaaDoor
open Go.RowKit Go.Shelf
theorem eqW (W : World) (k a : Int) (s : ByteArray) : Sem.run Tryd.prog (Op.equalIn 10000 44 (.agg #[.int .u8 k, .string s, .int .i64 a]) (.agg #[.int .u8 k, .string s, .int .i64 a])) W = .ok true W := by
  rw [run_equalIn_struct W 9999 44 _ _ (by kernel_rfl) (by kernel_rfl)]
  rw [show (Tryd.prog.fieldsOf 44).toList = _ from by unfold Program.fieldsOf; rw [Tryd.underlying44]]
  simp only [Op.eqFields, go_sem, run_equalIn_int (P := Tryd.prog) W 9998 3 .i64 .i64 _ _ Tryd.underlying3, run_equalIn_int (P := Tryd.prog) W 9998 42 .u8 .u8 _ _ Tryd.underlying42, run_equalIn_string (P := Tryd.prog) W 9998 9 _ _ Tryd.underlying9]
  simp [Result.andThen, go_sem, run_equalIn_int (P := Tryd.prog) W 9998 3 .i64 .i64 _ _ Tryd.underlying3, run_equalIn_int (P := Tryd.prog) W 9998 42 .u8 .u8 _ _ Tryd.underlying42, run_equalIn_string (P := Tryd.prog) W 9998 9 _ _ Tryd.underlying9]
theorem eqR (W : World) (k a : Int) (s : ByteArray) : Sem.run Tryd.prog (Op.equalIn 10000 46 (.agg #[.int .i64 k, .int .i64 a, .string s]) (.agg #[.int .i64 k, .int .i64 a, .string s])) W = .ok true W := by
  rw [run_equalIn_struct W 9999 46 _ _ (by kernel_rfl) (by kernel_rfl)]
  rw [show (Tryd.prog.fieldsOf 46).toList = _ from by unfold Program.fieldsOf; rw [Tryd.underlying46]]
  simp only [Op.eqFields, go_sem, run_equalIn_int (P := Tryd.prog) W 9998 3 .i64 .i64 _ _ Tryd.underlying3, run_equalIn_string (P := Tryd.prog) W 9998 9 _ _ Tryd.underlying9]
  simp [Result.andThen, go_sem, run_equalIn_int (P := Tryd.prog) W 9998 3 .i64 .i64 _ _ Tryd.underlying3, run_equalIn_string (P := Tryd.prog) W 9998 9 _ _ Tryd.underlying9]
theorem guard44 : Tryd.prog.eqGuardType Tryd.prog.depth 44 = false := by kernel_rfl
theorem guard46 : Tryd.prog.eqGuardType Tryd.prog.depth 46 = false := by kernel_rfl
theorem run_eqlW (W : World) (k a : Int) (s : ByteArray) : Sem.run Tryd.prog (binOp .eql 44 (.agg #[.int .u8 k, .string s, .int .i64 a]) (.agg #[.int .u8 k, .string s, .int .i64 a])) W = .ok (.bool true) W := by rw [run_eql_struct, eqW]; rfl
theorem run_neqW (W : World) (k a : Int) (s : ByteArray) : Sem.run Tryd.prog (binOp .neq 44 (.agg #[.int .u8 k, .string s, .int .i64 a]) (.agg #[.int .u8 k, .string s, .int .i64 a])) W = .ok (.bool false) W := by rw [run_neq_struct, eqW]; rfl
theorem run_eqlR (W : World) (k a : Int) (s : ByteArray) : Sem.run Tryd.prog (binOp .eql 46 (.agg #[.int .i64 k, .int .i64 a, .string s]) (.agg #[.int .i64 k, .int .i64 a, .string s])) W = .ok (.bool true) W := by rw [run_eql_struct, eqR]; rfl
theorem run_neqR (W : World) (k a : Int) (s : ByteArray) : Sem.run Tryd.prog (binOp .neq 46 (.agg #[.int .i64 k, .int .i64 a, .string s]) (.agg #[.int .i64 k, .int .i64 a, .string s])) W = .ok (.bool false) W := by rw [run_neq_struct, eqR]; rfl
theorem run_guardW (W : World) (op : BinOp) (x y : Operand) (xs ys : Array Value) : (eqGuard op 44 x y (.agg xs) (.agg ys)).run Tryd.prog W = .ok () W := run_eqGuard_agg W op 44 x y xs ys guard44
theorem run_guardR (W : World) (op : BinOp) (x y : Operand) (xs ys : Array Value) : (eqGuard op 46 x y (.agg xs) (.agg ys)).run Tryd.prog W = .ok () W := run_eqGuard_agg W op 46 x y xs ys guard46
/-- Cells that can be read from an address on. -/
def RdG (w : World) (a : Option Addr) (cs : List Value) : Prop := ∀ j u, cs[j]? = some u → ∃ b o, a = some ⟨b, o, none⟩ ∧ w.cell? ⟨b, o + j, none⟩ = some u
theorem RdG.keep {w w' : World} {a : Option Addr} {cs : List Value} (h : RdG w a cs) (k : Keep w w') : RdG w' a cs := by
  intro j u hj
  obtain ⟨b, o, e, hc⟩ := h j u hj
  exact ⟨b, o, e, k.cell hc⟩
theorem own_rdg {B e s n : Nat} {w : World} {v : Value} {l : List Value} (h : w.ownsRow B e s v n l) : ∃ a c, v = .slice a n c ∧ n ≤ c ∧ RdG w a l := by
  obtain ⟨a, c, hv, hn, hc⟩ := own_cells h
  refine ⟨a, c, hv, hn, fun j u hj => ?_⟩
  obtain ⟨b, hb, hx⟩ := hc j u hj
  exact ⟨b, 0, hb, by rw [Nat.zero_add]; exact hx⟩
attribute [local go_sem high] run_eqlW run_eqlR run_guardW run_guardR
set_option maxRecDepth 100000 in
set_option maxHeartbeats 2000000 in
theorem lives_any (w : World) (hT : Kt w) : Calls Tryd.prog 10 #[] w fun e w' => e = .returned (.bool true) ∧ Keep w w' := by
  have hW := Words_any [115, 112, 108, 105, 116, 32, 97, 103, 101, 60, 61, 45, 48, 46, 53, 32, 35, 32, 120] w hT (by decide)
  have e1 : ws 0 [115, 112, 108, 105, 116, 32, 97, 103, 101, 60, 61, 45, 48, 46, 53, 32, 35, 32, 120] [] = ([(1, [115, 112, 108, 105, 116], 0), (1, [97, 103, 101], 6), (4, [60, 61], 9), (2, [45, 48, 46, 53], 11)], 0, 0) := by decide +kernel
  rw [e1] at hW
  have hF := fun wx => Fields_any [97, 44, 34, 98, 34, 34, 34] 44 wx (by decide)
  have e2 : fdR [97, 44, 34, 98, 34, 34, 34] 44 = ([[97], [98, 34]], 0, 0) := by decide +kernel
  rw [e2] at hF
  have hR := fun wx => Rows_any [97, 13, 10, 98] wx (by decide)
  have e3 : rwA 0 0 [97, 13, 10, 98] = [(1, 0, [97]), (2, 3, [98])] := by decide +kernel
  rw [e3] at hR
  have hQ := fun wx => Quote_any [10] wx (by decide)
  have e4 : qt [10] = [34, 92, 110, 34] := by decide +kernel
  rw [e4] at hQ
  clear e1 e2 e3 e4 hT
  go_enter Tryd.func10, Tryd.ntmps10
  go_wp2_with (first
    | (go_at_call 14; refine hW.mono ?_; rintro e w1 ⟨v1, rfl, o1, k1⟩
       obtain ⟨a1, n1, rfl, hn1, g1⟩ := own_rdg o1
       obtain ⟨b1, p1, rfl, x6⟩ := g1 6 _ rfl
       obtain ⟨_, _, q1, x7⟩ := g1 7 _ rfl
       cases q1
       obtain ⟨_, _, q1, x8⟩ := g1 8 _ rfl
       cases q1
       clear g1 o1 hW)
    | (go_at_call 17; refine (hF _).mono ?_; rintro e w2 ⟨v2, rfl, o2, k2⟩
       obtain ⟨a2, n2, rfl, hn2, g2⟩ := own_rdg o2
       obtain ⟨b2, p2, rfl, y1⟩ := g2 1 _ rfl
       replace x6 := k2.cell x6
       replace x7 := k2.cell x7
       replace x8 := k2.cell x8
       clear g2 o2 hF)
    | (go_at_call 12; refine (hR _).mono ?_; rintro e w3 ⟨v3, rfl, o3, k3⟩
       obtain ⟨a3, n3, rfl, hn3, g3⟩ := own_rdg o3
       obtain ⟨b3, p3, rfl, z3⟩ := g3 3 _ rfl
       obtain ⟨_, _, q3, z4⟩ := g3 4 _ rfl
       cases q3
       obtain ⟨_, _, q3, z5⟩ := g3 5 _ rfl
       cases q3
       replace x6 := k3.cell x6
       replace x7 := k3.cell x7
       replace x8 := k3.cell x8
       replace y1 := k3.cell y1
       clear g3 o3 hR)
    | (go_at_call 22; refine (hQ _).mono ?_; rintro e w4 ⟨rfl, k4⟩))
  go_ret
  exact ⟨rfl, ((k1.trans k2).trans k3).trans k4⟩
end Go.Proofs.YtonfjmibnnioiaaDoor
