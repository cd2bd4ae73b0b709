import Derived.Test.YtagfkmbljkglpaaC11
set_option linter.unusedVariables false
set_option linter.unusedSimpArgs false
namespace Go.Proofs.Ytagfkmbljkglpaa
open Go.RowKit Lb Nr
set_option maxRecDepth 100000 in
set_option maxHeartbeats 400000 in
theorem pN_zero (ng : Bool) (v1 v2 : Value) (K : Nat) (w : World) (h2 : Lv w v2 0 K) (hK : K ≤ 35184372087850) :
    Calls Try.prog 4 #[.agg #[.bool ng, v1, v2]] w fun e w' => e = .returned (.tuple #[.float .f64 0, .int .i64 11]) ∧ Keep w w' := by
  have L2 := fun wx (kx : Keep w wx) => Len_lv v2 0 K wx (h2.keep kx) (by omega)
  have s0 : sz 0 = 0 := rfl
  rw [s0] at L2
  obtain ⟨w0, hw0, k0, tb⟩ : ∃ w0, w.alloc (Obj.cells #[.bool ng, v1, v2] 28) = w0 ∧ Keep w w0 ∧ w0.heap[w.heap.size]? = some (Obj.cells #[.bool ng, v1, v2] 28 (0, 0)) := ⟨_, rfl, (Keep.refl w).alloc _, heap_alloc_new w _⟩
  have c0 := cell_of_row _ _ 0 _ 28 (0, 0) tb
  have c1 := cell_of_row _ _ 1 _ 28 (0, 0) tb
  have c2 := cell_of_row _ _ 2 _ 28 (0, 0) tb
  simp only [List.getElem?_toArray, List.getElem?_cons_zero, List.getElem?_cons_succ] at c0 c1 c2
  go_enter Try.func4, Try.ntmps4
  go_wp2_with fail
  refine (L2 _ k0).mono ?_
  rintro e wx ⟨rfl, rfl⟩
  go_wp2_with fail
  go_ret2
  exact ⟨rfl, k0⟩
theorem Own.lv {B : Nat} {w : World} {v : Value} {l : List Nat} (h : Own B w v l) (hm : Lim l) (K : Nat) (hK : l.length ≤ K) : Lv w v (val l) K := by
  obtain ⟨a, c, rfl, h1, h2⟩ := h.shape
  exact ⟨a, c, l, rfl, h1, hK, h2, hm, rfl⟩
set_option maxRecDepth 100000 in
set_option maxHeartbeats 1000000 in
theorem law_near (ng : Bool) (a b : Option Addr) (ca cb : Nat) (la lb : List Nat) (w : World) (hca : la.length ≤ ca) (hcb : lb.length ≤ cb) (hla : la.length ≤ 35184372087808) (hlb : lb.length ≤ 35184372087808) (hra : Rd w a la) (hrb : Rd w b lb) (hma : Lim la) (hmb : Lim lb) :
    Calls Try.prog 3 #[.bool ng, .slice a la.length ca, .slice b lb.length cb] w fun e w' => e = .returned (.bool true) ∧ Keep w w' := by
  have h6 := Wide_any
  have h7 := fun (x : Nat) wx => f64bits x wx
  rcases Nat.eq_zero_or_pos (val lb) with hD | hD
  · have hR := fun wx (kx : Keep w wx) => rN_zero ng a b ca cb la lb wx hca hcb hla hlb (hra.keep kx) (hrb.keep kx) (.inl hD)
    have hdec : decide (val lb ≠ 0) = false := by simp [hD]
    rw [hdec] at hR
    have hP := fun v1 v2 wx B (h : Own B wx v2 lb) => pN_zero ng v1 v2 35184372087808 wx (by have := h.lv hmb 35184372087808 hlb; rw [hD] at this; exact this) (by omega)
    have h70 := h7 0
    have hla' : la.length ≤ 35184372088000 := by omega
    have hlb' : lb.length ≤ 35184372088000 := by omega
    unfold wideV numV at *
    clear hD hdec hma hmb hca hcb hla hlb
    go_enter Try.func3, Try.ntmps3
    go_upto_region 2 with (at_builtin; refine wpList_copy32e rfl _ _ rfl la a ca rfl rfl hra hla' ?_; intro v1 w1 o1 k1)
    go_upto_region 3 with (at_builtin; refine wpList_copy32e rfl _ _ rfl lb b cb rfl rfl (hrb.keep k1) hlb' ?_; intro v2 w2 o2 k2)
    obtain ⟨a1, d1, rfl, s1, s2⟩ := o1.shape
    obtain ⟨a2, d2, rfl, s3, s4⟩ := o2.shape
    clear s1 s2 s3 s4
    go_wp2_with fail
    refine (hP _ _ _ _ o2).mono ?_
    rintro e w3 ⟨rfl, k3⟩
    go_wp2_with fail
    refine (h6 _).mono ?_
    rintro e w4 ⟨rfl, k4⟩
    have k14 := ((k1.trans k2).trans k3).trans k4
    go_wp2_with fail
    refine (hR _ k14).mono ?_
    rintro e w5 ⟨rfl, k5⟩
    go_wp2_with fail
    go_ret
    exact ⟨rfl, (k14.trans k5).alloc _⟩
  · obtain ⟨x, ng', inf, M', E', hx, hM', hE1, hE2, hP, hR⟩ : ∃ (x : Nat) (ng' inf : Bool) (M' : Nat) (E' : Int), x = nb inf M' E' + sg ng' ∧ M' < 9007199254740992 ∧ -1074 ≤ E' ∧ E' ≤ 971 ∧
        (∀ v1 v2 wx B C, Own B wx v1 la → Own C wx v2 lb → Calls Try.prog 4 #[.agg #[.bool ng, v1, v2]] wx fun e w' => e = .returned (.tuple #[.float .f64 x, .int .i64 0]) ∧ Keep wx w') ∧
        (∀ wx, Keep w wx → Calls Try.prog 5 #[.bool ng, .slice a la.length ca, .slice b lb.length cb, wideV] wx fun e w' => e = .returned (.tuple #[numV ng' inf M' E', .bool true]) ∧ Keep wx w') := by
      rcases Nat.eq_zero_or_pos (val la) with hN | hN
      · refine ⟨0, false, false, 0, 0, rfl, by omega, by omega, by omega, ?_, ?_⟩
        · intro v1 v2 wx B C p1 p2
          refine (pN_some ng v1 v2 (val la) (val lb) 35184372087808 wx (p1.lv hma _ hla) (p2.lv hmb _ hlb) (by omega) hD).mono ?_
          rintro e w' ⟨y, rfl, hy, _, k⟩
          rw [hy hN]
          exact ⟨rfl, k⟩
        · intro wx kx
          have := rN_zero ng a b ca cb la lb wx hca hcb hla hlb (hra.keep kx) (hrb.keep kx) (.inr hN)
          rw [show decide (val lb ≠ 0) = true by simp; omega] at this
          exact this
      · obtain ⟨E, hE⟩ := exE hN hD
        obtain ⟨s1, s2⟩ := small_E hD hE
        obtain ⟨inf, M', E', hform, hnb, q1, q2, q3⟩ := nearV_form (rup (sA (val la) E) (sB (val lb) E)) E s1 hE.1
        refine ⟨wb (rup (sA (val la) E) (sB (val lb) E)) E + sg ng, ng, inf, M', E', ?_, q1, q2, q3, ?_, ?_⟩
        · rw [hnb, wb_rb s1 hE.1 s2]
        · intro v1 v2 wx B C p1 p2
          refine (pN_some ng v1 v2 (val la) (val lb) 35184372087808 wx (p1.lv hma _ hla) (p2.lv hmb _ hlb) (by omega) hD).mono ?_
          rintro e w' ⟨y, rfl, _, hy, k⟩
          rw [hy hN E hE]
          exact ⟨rfl, k⟩
        · intro wx kx
          refine (rN_some ng a b ca cb la lb wx hca hcb hla hlb (hra.keep kx) (hrb.keep kx) hma hmb hN hD).mono ?_
          rintro e w' ⟨E2, hE2, rfl, k⟩
          rw [isE_one hD hE2 hE, hform]
          exact ⟨rfl, k⟩
    have hI := fun wx => is_any x ng' inf M' E' hM' ⟨hE1, hE2⟩ hx wx
    have hla' : la.length ≤ 35184372088000 := by omega
    have hlb' : lb.length ≤ 35184372088000 := by omega
    have hS1 := fun v wx B (p : Own B wx v la) (kx : Keep w wx) => (by
      obtain ⟨a', c', rfl, r1, r2⟩ := p.shape
      exact same_any a' a c' ca la wx (by omega) r2 (hra.keep kx) : Calls Try.prog 9 #[v, .slice a la.length ca] wx fun e w' => e = .returned (.bool true) ∧ Keep wx w')
    have hS2 := fun v wx B (p : Own B wx v lb) (kx : Keep w wx) => (by
      obtain ⟨a', c', rfl, r1, r2⟩ := p.shape
      exact same_any a' b c' cb lb wx (by omega) r2 (hrb.keep kx) : Calls Try.prog 9 #[v, .slice b lb.length cb] wx fun e w' => e = .returned (.bool true) ∧ Keep wx w')
    unfold wideV numV at *
    clear hx hM' hE1 hE2 hD hma hmb hca hcb hla hlb
    go_enter Try.func3, Try.ntmps3
    go_upto_region 2 with (at_builtin; refine wpList_copy32e rfl _ _ rfl la a ca rfl rfl hra hla' ?_; intro v1 w1 o1 k1)
    go_upto_region 3 with (at_builtin; refine wpList_copy32e rfl _ _ rfl lb b cb rfl rfl (hrb.keep k1) hlb' ?_; intro v2 w2 o2 k2)
    obtain ⟨a1, d1, rfl, s1, s2⟩ := o1.shape
    obtain ⟨a2, d2, rfl, s3, s4⟩ := o2.shape
    clear s1 s2 s3 s4
    go_wp2_with fail
    refine (hP _ _ _ _ _ (o1.keep k2) o2).mono ?_
    rintro e w3 ⟨rfl, k3⟩
    go_wp2_with fail
    refine (h6 _).mono ?_
    rintro e w4 ⟨rfl, k4⟩
    have k14 := ((k1.trans k2).trans k3).trans k4
    go_wp2_with fail
    refine (hR _ k14).mono ?_
    rintro e w5 ⟨rfl, k5⟩
    have k15 := k14.trans k5
    go_wp2_with fail
    refine (hI _).mono ?_
    rintro e w6 ⟨rfl, k6⟩
    have k16 := (k15.alloc (Obj.cells #[Value.bool ng', Value.bool inf, Value.bool false, Value.int IntKind.u64 (M' : Nat), Value.int IntKind.i64 E'] 31)).trans k6
    have k26 := ((((k3.trans k4).trans k5).alloc (Obj.cells #[Value.bool ng', Value.bool inf, Value.bool false, Value.int IntKind.u64 (M' : Nat), Value.int IntKind.i64 E'] 31)).trans k6)
    go_wp2_with fail
    refine (hS1 _ _ _ ((o1.keep k2).keep k26) k16).mono ?_
    rintro e w7 ⟨rfl, k7⟩
    go_wp2_with fail
    refine (hS2 _ _ _ ((o2.keep k26).keep k7) (k16.trans k7)).mono ?_
    rintro e w8 ⟨rfl, k8⟩
    go_wp2_with fail
    go_ret
    exact ⟨rfl, (k16.trans k7).trans k8⟩
end Go.Proofs.Ytagfkmbljkglpaa
