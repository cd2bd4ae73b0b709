import Derived.Test.YtmkanofeencgpaaDoorU2
import Derived.Test.YtmkanofeencgpaaDoorYS6
import Derived.Test.YtmkanofeencgpaaDoorYS9
import Derived.Laws.StructEq
set_option linter.unusedVariables false
set_option linter.unusedSimpArgs false
namespace Go.Proofs.YtmkanofeencgpaaDoor
open Go.RowKit Go.Shelf
theorem eq_bk (W : World) (a b c : Int) : Sem.run Tryd.prog (Op.equalIn 10000 30 (.agg #[.int .i64 a, .int .i64 b, .int .i64 c]) (.agg #[.int .i64 a, .int .i64 b, .int .i64 c])) W = .ok true W := by
  rw [run_equalIn_struct W 9999 30 _ _ (by kernel_rfl) (by kernel_rfl)]
  rw [show (Tryd.prog.fieldsOf 30).toList = _ from by unfold Program.fieldsOf; rw [Tryd.underlying30]]
  simp [Op.eqFields, go_sem, Result.andThen, run_equalIn_int (P := Tryd.prog) W 9998 3 .i64 .i64 _ _ Tryd.underlying3, run_equalIn_int (P := Tryd.prog) W 9998 28 .i64 .i64 _ _ Tryd.underlying28]
theorem eqg_bk : Tryd.prog.eqGuardType Tryd.prog.depth 30 = false := by kernel_rfl
theorem run_eqlB (W : World) (a b c : Int) : Sem.run Tryd.prog (binOp .eql 30 (.agg #[.int .i64 a, .int .i64 b, .int .i64 c]) (.agg #[.int .i64 a, .int .i64 b, .int .i64 c])) W = .ok (.bool true) W := by
  rw [run_eql_struct, eq_bk]; rfl
theorem run_guardB (W : World) (op : BinOp) (x y : Operand) (xs ys : Array Value) : (eqGuard op 30 x y (.agg xs) (.agg ys)).run Tryd.prog W = .ok () W := run_eqGuard_agg W op 30 x y xs ys eqg_bk
attribute [local go_sem high] run_eqlB run_guardB
set_option maxRecDepth 100000 in
set_option maxHeartbeats 4000000 in
theorem law_check (nm : ByteArray) (fa : Option Addr) (fs : List ByteArray) (cf : Nat) (N : Int) (ba : Option Addr) (base : List Int) (cb : Nat) (ta : Option Addr) (ts : List (Int × List Nd)) (ct : Nat) (w : World) (hA : EnA w nm fa fs ba base ta ts) :
    Calls Tryd.prog 3 #[.agg (ev nm fa fs.length cf N ba base.length cb ta ts.length ct)] w fun e w' => e = .returned (.bool true) ∧ Keep w w' := by
  obtain ⟨w1, hw1, k1, t1, s1⟩ := boxed w (ev nm fa fs.length cf N ba base.length cb ta ts.length ct) 26
  obtain ⟨z0, z1, z2, z3, z4⟩ := cells5 t1
  have hA1 := hA.keep k1
  have hCp := rCopy_any nm fa fs cf N ba base cb ta ts ct w1 hA1.rf hA1.fl hA1.er.rb hA1.er.bl hA1.er.rt hA1.er.tl hA1.er.tn
  unfold ens at hCp
  go_enter Tryd.func3, Tryd.ntmps3
  go_wp2_with (first
    | rw [hw1]
    | (go_at_call 9; refine hCp.mono ?_; rintro e w2 ⟨fa', cf', ba', cb', ta', ct', rfl, rf, hcf, rb, hcb, rt, hct, k2⟩
       obtain ⟨w3, hw3, k3, t3, s3⟩ := boxed w2 (ev nm fa' fs.length cf' N ba' base.length cb' ta' ts.length ct') 26
       have k13 := k2.trans k3
       obtain ⟨y0, y1, y2, y3, y4⟩ := cells5 (k13.at t1)
       have hCk := rCheck_any nm fa fs cf N ba base cb ta ts ct w3 (hA1.keep k13)
       have hG3 : EnA w3 nm fa' fs ba' base ta' ts := ⟨(hA1.keep k13).tb, hA.ns, rf.keep k3, hA.fl, hA.fz, ⟨hA.er.bl, rb.keep k3, hA.er.bb, hA.er.tl, hA.er.tn, rt.keep k3⟩⟩
       replace hG3 : Hid _ := hG3
       obtain ⟨B, HB⟩ : ∃ B, Hid (B = chB nm fs N base ts) := ⟨_, rfl⟩
       rw [← HB.out] at hCk
       obtain ⟨x0, x1, x2⟩ := B)
    | (go_at_call 10; refine hCk.mono ?_; rintro e w4 ⟨rfl, k4⟩
       obtain ⟨w5, w6, hw5, hw6, k6, t6, a0, a1, a2, g0, g1, g2⟩ := boxB w4 (.int .i64 x0) (.int .i64 x1) (.int .i64 x2)))
  clear y0 y1 y2 y3 y4 z0 z1 z2 z3 z4 a0 a1 a2 g0 g1 g2
  have k36 := k4.trans k6
  have q1 := (k13.trans k36).at t1
  have q3 := k36.at t3
  obtain ⟨z0, z1, z2, z3, z4⟩ := cells5 q1
  obtain ⟨y0, y1, y2, y3, y4⟩ := cells5 q3
  obtain ⟨c0, c1, c2, -, -, -⟩ := cells3 t6
  have hG := hG3.out.keep k36
  have hE := hA1.keep (k13.trans k36)
  have hC := fun wx (q : Keep w6 wx) => Check_any nm fa' fs cf' N ba' base cb' ta' ts ct' wx (hG.keep q)
  have hV := fun wx (q : Keep w6 wx) => Valid_any nm fa' fs cf' N ba' base cb' ta' ts ct' wx (hG.keep q)
  have hS := fun wx (q : Keep w6 wx) => rSame_any nm fa' fs cf' N ba' base cb' ta' ts ct' nm fa fs cf N ba base cb ta ts ct wx (hG.rf.keep q) hG.fl (hG.er.rb.keep q) hG.er.bl (hG.er.rt.keep q) hG.er.tl (hE.rf.keep q) (hE.er.rb.keep q) (hE.er.rt.keep q)
  rw [show @decide (EnsEq nm fs N base ts nm fs N base ts) (Classical.propDecidable _) = true from @decide_eq_true _ (Classical.propDecidable _) (show EnsEq nm fs N base ts nm fs N base ts from ⟨rfl, rfl, rfl, rfl, rfl⟩)] at hS
  rw [← HB.out] at hC hV
  have hV' : ∀ wx, Keep w6 wx → Calls Tryd.prog 12 #[.agg (ev nm fa' fs.length cf' N ba' base.length cb' ta' ts.length ct')] wx (fun e w' => e = .returned (.bool (x0 == 0)) ∧ Keep wx w') := hV
  have hC' : ∀ wx, Keep w6 wx → Calls Tryd.prog 11 #[.agg (ev nm fa' fs.length cf' N ba' base.length cb' ta' ts.length ct')] wx (fun e w' => e = .returned (.agg #[.int .i64 x0, .int .i64 x1, .int .i64 x2]) ∧ Keep wx w') := hC
  obtain ⟨bz, hbz⟩ : ∃ bz, (x0 == 0) = bz := ⟨_, rfl⟩
  rw [hbz] at hV'
  unfold ens at hS
  clear hV hC hG hE hG3 HB
  refine region_keep (Keep.refl w6) (by kernel_rfl) (by kernel_rfl) ?_
  repeat
    with_reducible refine wpQuiet_step ?_
    intro K hK
    go_simp
    first
      | (with_reducible refine hK _ ?_; clear hK K)
      | (apply Exists.intro
         with_reducible refine ⟨fun wx hQ => ?_, hK _ ?_⟩
         · first
             | with_reducible rfl
             | with_reducible exact (hC' wx hQ).mono fun e w'' h => ⟨h.1, hQ.trans h.2⟩
             | with_reducible exact (hV' wx hQ).mono fun e w'' h => ⟨h.1, hQ.trans h.2⟩
             | with_reducible exact (hS wx hQ).mono fun e w'' h => ⟨h.1, hQ.trans h.2⟩
             | (have p0 := hQ.cell z0; have p1 := hQ.cell z1; have p2 := hQ.cell z2; have p3 := hQ.cell z3; have p4 := hQ.cell z4; have r0 := hQ.cell y0; have r1 := hQ.cell y1; have r2 := hQ.cell y2; have r3 := hQ.cell y3; have r4 := hQ.cell y4; have d0 := hQ.cell c0; have d1 := hQ.cell c1; have d2 := hQ.cell c2; go_simp; with_reducible rfl)
         clear hK K)
  with_reducible refine wpQuiet_nil ?_
  intro w7 k7
  go_simp
  go_wp2_with fail
  go_ret
  exact ⟨rfl, (k1.trans (k13.trans k36)).trans k7⟩
end Go.Proofs.YtmkanofeencgpaaDoor
