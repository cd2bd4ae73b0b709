import Derived.Test.YtagfkmbljkglpaaC8
set_option linter.unusedVariables false
set_option linter.unusedSimpArgs false
namespace Go.Proofs.Ytagfkmbljkglpaa
open Go.RowKit Lb Nr
set_option maxRecDepth 100000 in
set_option maxHeartbeats 1000000 in
theorem rN_some (ng : Bool) (a b : Option Addr) (ca cb : Nat) (la lb : List Nat) (w : World) (hca : la.length ≤ ca) (hcb : lb.length ≤ cb) (hla : la.length ≤ 35184372087808) (hlb : lb.length ≤ 35184372087808) (hra : Rd w a la) (hrb : Rd w b lb) (hma : Lim la) (hmb : Lim lb) (hz : 0 < val la) (hz2 : 0 < val lb) :
    Calls Try.prog 5 #[.bool ng, .slice a la.length ca, .slice b lb.length cb, wideV] w fun e w' => ∃ E, IsE (val la) (val lb) E ∧ e = .returned (.tuple #[nearV (rup (sA (val la) E) (sB (val lb) E)) E ng, .bool true]) ∧ Keep w w' := by
  obtain ⟨w0, hw0, k0, tb, tr⟩ := two_boxes w
  have n1 := norm_any a ca la w0 hca (by omega) (hra.keep k0)
  have n2 := norm_any b cb lb w0 hcb (by omega) (hrb.keep k0)
  have e1 : nl la ≠ 0 := fun h => by have := nl_zero_val.1 h; omega
  have e2 : nl lb ≠ 0 := fun h => by have := nl_zero_val.1 h; omega
  have e3 : ((nl la : Int) == 0) = false := by rw [beq_eq_false_iff_ne]; omega
  have e4 : ((nl lb : Int) == 0) = false := by rw [beq_eq_false_iff_ne]; omega
  have l1 : (la.take (nl la)).length = nl la := by rw [List.length_take]; have := nl_le la; omega
  have l2 : (lb.take (nl lb)).length = nl lb := by rw [List.length_take]; have := nl_le lb; omega
  have g1 := nl_le la
  have g2 := nl_le lb
  have N1 : Nv w0 (.slice a (nl la) ca) (val la) := ⟨a, ca, la.take (nl la), by rw [l1], by omega, (hra.keep k0).take _, Lim_take hma _, Nrm_take _, val_take_nl _⟩
  have N2 : Nv w0 (.slice b (nl lb) cb) (val lb) := ⟨b, cb, lb.take (nl lb), by rw [l2], by omega, (hrb.keep k0).take _, Lim_take hmb _, Nrm_take _, val_take_nl _⟩
  obtain ⟨k, hk⟩ : ∃ k : Nat, k = 35184372087808 := ⟨_, rfl⟩
  rw [← hk] at hla hlb
  have hR := rnearest_any _ _ (val la) (val lb) k w0 N1 N2 (by omega) (Nat.lt_of_lt_of_le (val_lt hma) (Nat.pow_le_pow_right (by omega) hla)) (Nat.lt_of_lt_of_le (val_lt hmb) (Nat.pow_le_pow_right (by omega) hlb)) hz hz2
  have HSM : Hid (∀ E, IsE (val la) (val lb) E → rup (sA (val la) E) (sB (val lb) E) ≤ 9007199254740992) := fun E hE => (small_E hz2 hE).1
  have c0 := cell_of_row _ _ 0 _ 35 (0, 0) tb
  have c1 := cell_of_row _ _ 1 _ 35 (0, 0) tb
  have c2 := cell_of_row _ _ 2 _ 35 (0, 0) tb
  simp only [List.getElem?_toArray, List.getElem?_cons_zero, List.getElem?_cons_succ] at c0 c1 c2
  unfold wideV at *
  generalize nl la = na at *
  generalize nl lb = nb' at *
  generalize val la = N at *
  generalize val lb = D at *
  clear hra hrb hma hmb N1 N2 l1 l2 g1 g2 hla hlb hca hcb
  go_enter Try.func5, Try.ntmps5
  go_wp2_with fail
  refine n1.mono ?_
  rintro e wx ⟨rfl, rfl⟩
  go_wp2_with fail
  refine n2.mono ?_
  rintro e wx ⟨rfl, rfl⟩
  go_wp2_with fail
  refine hR.mono ?_
  rintro e w1 ⟨E, hE, rfl, k1⟩
  have hsm := HSM.out E hE
  obtain ⟨inf, M', E', hform, hnb, hM', hE1, hE2⟩ := nearV_form (rup (sA N E) (sB D E)) E hsm hE.1
  rw [hform]
  unfold numV
  have HX : Hid (IsE N D E) := hE
  have HFm : Hid (nearV (rup (sA N E) (sB D E)) E ng = numV ng inf M' E') := hform ng
  have tr1 := (k1.block _ (Array.getElem?_eq_some_iff.1 tr).1).trans tr
  have a0 := cell_of_row _ _ 0 _ 31 (0, 0) tr1
  have a1 := cell_of_row _ _ 1 _ 31 (0, 0) tr1
  have a2 := cell_of_row _ _ 2 _ 31 (0, 0) tr1
  have a3 := cell_of_row _ _ 3 _ 31 (0, 0) tr1
  have a4 := cell_of_row _ _ 4 _ 31 (0, 0) tr1
  simp only [List.getElem?_toArray, List.getElem?_cons_zero, List.getElem?_cons_succ] at a0 a1 a2 a3 a4
  have b0 := frozen_of_row _ _ 0 _ 31 tr1
  have b1 := frozen_of_row _ _ 1 _ 31 tr1
  have b2 := frozen_of_row _ _ 2 _ 31 tr1
  have b3 := frozen_of_row _ _ 3 _ 31 tr1
  have b4 := frozen_of_row _ _ 4 _ 31 tr1
  have hlt1 : w.heap.size + 1 < w1.heap.size := (Array.getElem?_eq_some_iff.1 tr1).1
  clear hE hnb hM' hE1 hE2 hform hsm n1 n2 hR HSM c0 c1 c2 tb
  go_wp2_with fail
  have hh := heap5 w1 (w.heap.size + 1) (.bool ng) (.bool inf) (.bool false) (.int .u64 (M' : Nat)) (.int .i64 E') tr1
  have hh2 := fun o => (((Keep.refl (((((w1.setCell ⟨w.heap.size + 1, 0, none⟩ (.bool ng)).setCell ⟨w.heap.size + 1, 1, none⟩ (.bool inf)).setCell ⟨w.heap.size + 1, 2, none⟩ (.bool false)).setCell ⟨w.heap.size + 1, 3, none⟩ (.int .u64 (M' : Nat))).setCell ⟨w.heap.size + 1, 4, none⟩ (.int .i64 E'))).alloc o).block _ (Array.getElem?_eq_some_iff.1 hh).1).trans hh
  have hgl : w.heap.size ≤ w.heap.size + 1 := Nat.le_succ _
  have kf := ((((((k0.trans k1).setCell (p := ⟨w.heap.size + 1, 0, none⟩) hgl (.bool ng)).setCell (p := ⟨w.heap.size + 1, 1, none⟩) hgl (.bool inf)).setCell (p := ⟨w.heap.size + 1, 2, none⟩) hgl (.bool false)).setCell (p := ⟨w.heap.size + 1, 3, none⟩) hgl (.int .u64 (M' : Nat))).setCell (p := ⟨w.heap.size + 1, 4, none⟩) hgl (.int .i64 E'))
  refine bodyPost_ret (results_box5 rfl _ _ (w.heap.size + 1) _ _ _ _ _ rfl (hh2 _)) rfl ?_
  refine ⟨E, HX.out, ?_, kf.alloc _⟩
  rw [HFm.out]
  rfl
end Go.Proofs.Ytagfkmbljkglpaa
