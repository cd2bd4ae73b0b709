import Derived.Test.YtbchinfmdioijaaR7
import Derived.Test.YtbchinfmdioijaaY3
set_option linter.unusedVariables false
set_option linter.unusedSimpArgs false
namespace Go.Proofs.Ytbchinfmdioijaa
open Go.RowKit Go.Shelf
set_option maxRecDepth 100000 in
set_option maxHeartbeats 1000000 in
theorem rDepth_err (w : World) (a : Option Addr) (cap : Nat) (out : Int) (L : List Nd) (hLn : L.length ≤ 2199023255552) (hE : shE L ≠ 0) (hrd : RdN w a L) :
    Calls Try.prog 20 #[.agg #[.int .i64 out, .slice a L.length cap]] w fun e w' => e = .returned (.tuple #[.int .i64 0, .int .i64 (shE L)]) ∧ Keep w w' := by
  have hS := fun (wx : World) (k : Keep w wx) => rShape_any wx a cap out L hLn (hrd.keep k)
  have hB : (shE L == 0) = false := by simpa using hE
  have hB2 : (shE L != 0) = true := by simpa using hE
  have k0 : Keep w (w.alloc (Obj.cells #[Value.int IntKind.i64 out, Value.slice a L.length cap] 24)) := (Keep.refl w).alloc _
  clear hE
  generalize shE L = E at *
  go_enter Try.func20, Try.ntmps20
  go_wp2_with fail
  refine (hS _ k0).mono ?_
  rintro e w2 ⟨rfl, k2⟩
  go_wp2_with fail
  go_ret2
  exact ⟨rfl, k0.trans k2⟩
theorem rDepth_any (a : Option Addr) (cap : Nat) (out : Int) (L : List Nd) (hLn : L.length ≤ 2199023255552) (w : World) (hrd : RdN w a L) :
    Calls Try.prog 20 #[.agg #[.int .i64 out, .slice a L.length cap]] w fun e w' => e = .returned (.tuple #[.int .i64 (dpA L : Nat), .int .i64 (shE L)]) ∧ Keep w w' := by
  by_cases hE : shE L = 0
  · have e1 : dpA L = dep (shp L) L.length := by unfold dpA; rw [if_pos hE]
    rw [e1, hE]
    exact (callsIn_wide (n := 3)).1 (rDepth_in 3 (by omega) w a cap out L hLn hE hrd)
  · have e1 : dpA L = 0 := by unfold dpA; rw [if_neg hE]
    rw [e1]
    exact rDepth_err w a cap out L hLn hE hrd
theorem lvs_len {L : List Nd} (hLn : L.length ≤ 2199023255552) : (lvs L).length ≤ 17592186044416 ∧ (inn L).length ≤ 17592186044416 := by
  by_cases hE : shE L = 0
  · have h1 := ord_len (shE_rgt hE).wi
    unfold lvs inn
    rw [if_pos hE, if_pos hE]
    have h2 := List.length_filter_le (fun i => (!decide ((L.getD i nd0).kd = 2 ∨ (L.getD i nd0).kd = 3))) (ord (shp L) L.length)
    have h3 := List.length_filter_le (fun i => decide ((L.getD i nd0).kd = 2 ∨ (L.getD i nd0).kd = 3)) (ord (shp L) L.length)
    omega
  · unfold lvs inn
    rw [if_neg hE, if_neg hE]
    simp
set_option maxRecDepth 100000 in
set_option maxHeartbeats 1000000 in
theorem law_shapes (a : Option Addr) (cap : Nat) (out : Int) (L : List Nd) (hLn : L.length ≤ 2199023255552) (w : World) (hrd : RdN w a L) :
    Calls Try.prog 3 #[.agg #[.int .i64 out, .slice a L.length cap]] w fun e w' => e = .returned (.bool true) ∧ Keep w w' := by
  have hS := fun (wx : World) (k : Keep w wx) => Shape_any wx a cap out L hLn (hrd.keep k)
  have hT := fun (wx : World) (k : Keep w wx) => rShape_any wx a cap out L hLn (hrd.keep k)
  have hA := fun (wx : World) (k : Keep w wx) => Leaves_any a cap out L hLn wx (hrd.keep k)
  have hB := fun (wx : World) (k : Keep w wx) => Inner_any a cap out L hLn wx (hrd.keep k)
  have hC := fun (wx : World) (k : Keep w wx) => Depth_any a cap out L hLn wx (hrd.keep k)
  have hD := fun (wx : World) (k : Keep w wx) => rLeaves_any a cap out L hLn wx (hrd.keep k)
  have hE := fun (wx : World) (k : Keep w wx) => rInner_any a cap out L hLn wx (hrd.keep k)
  have hF := fun (wx : World) (k : Keep w wx) => rDepth_any a cap out L hLn wx (hrd.keep k)
  obtain ⟨hl1, hl2⟩ := lvs_len hLn
  have hlv := lives_any
  have k0 : Keep w (w.alloc (Obj.cells #[Value.int IntKind.i64 out, Value.slice a L.length cap] 24)) := (Keep.refl w).alloc _
  have c0 : (w.alloc (Obj.cells #[Value.int IntKind.i64 out, Value.slice a L.length cap] 24)).cell? ⟨w.heap.size, 0, none⟩ = some (.int .i64 out) := by rw [cell_of_row _ _ 0 _ 24 (0, 0) (heap_alloc_new w _)]; rfl
  have c1 : (w.alloc (Obj.cells #[Value.int IntKind.i64 out, Value.slice a L.length cap] 24)).cell? ⟨w.heap.size, 1, none⟩ = some (.slice a L.length cap) := by rw [cell_of_row _ _ 1 _ 24 (0, 0) (heap_alloc_new w _)]; rfl
  generalize lvs L = lA at *
  generalize inn L = lB at *
  generalize dpA L = dC at *
  generalize shE L = E at *
  generalize shI L = I at *
  go_enter Try.func3, Try.ntmps3
  go_wp2_with fail
  generalize w.alloc _ = w1 at k0 c0 c1 ⊢
  refine (hS _ k0).mono ?_
  rintro e w2 ⟨rfl, k2⟩
  have c0 := k2.cell c0
  have c1 := k2.cell c1
  have k02 := k0.trans k2
  go_wp2_with fail
  refine (hT _ k02).mono ?_
  rintro e w3 ⟨rfl, k3⟩
  have c0 := k3.cell c0
  have c1 := k3.cell c1
  have k03 := k02.trans k3
  go_wp2_with fail
  refine (hlv _).mono ?_
  rintro e w4 ⟨rfl, k4⟩
  have c0 := k4.cell c0
  have c1 := k4.cell c1
  have k04 := k03.trans k4
  go_wp2_with fail
  refine (hA _ k04).mono ?_
  rintro e w5 ⟨v5, rfl, o5, b5, k5⟩
  have c0 := k5.cell c0
  have c1 := k5.cell c1
  have k05 := k04.trans k5
  obtain ⟨a5, n5, rfl, hn5, r5⟩ := o5.rdI
  go_wp2_with fail
  refine (hB _ k05).mono ?_
  rintro e w6 ⟨v6, rfl, o6, b6, k6⟩
  have c0 := k6.cell c0
  have c1 := k6.cell c1
  have k06 := k05.trans k6
  have r5 := r5.keep k6
  obtain ⟨a6, n6, rfl, hn6, r6⟩ := o6.rdI
  go_wp2_with fail
  refine (hC _ k06).mono ?_
  rintro e w7 ⟨rfl, k7⟩
  have c0 := k7.cell c0
  have c1 := k7.cell c1
  have k07 := k06.trans k7
  have r5 := r5.keep k7
  have r6 := r6.keep k7
  go_wp2_with fail
  refine (hD _ k07).mono ?_
  rintro e w8 ⟨v8, rfl, o8, b8, k8⟩
  have c0 := k8.cell c0
  have c1 := k8.cell c1
  have k08 := k07.trans k8
  have r5 := r5.keep k8
  have r6 := r6.keep k8
  obtain ⟨a8, n8, rfl, hn8, r8⟩ := o8.rdI
  go_wp2_with fail
  refine (hE _ k08).mono ?_
  rintro e w9 ⟨v9, rfl, o9, b9, k9⟩
  have c0 := k9.cell c0
  have c1 := k9.cell c1
  have k09 := k08.trans k9
  have r5 := r5.keep k9
  have r6 := r6.keep k9
  have r8 := r8.keep k9
  obtain ⟨a9, n9, rfl, hn9, r9⟩ := o9.rdI
  go_wp2_with fail
  refine (hF _ k09).mono ?_
  rintro e w10 ⟨rfl, k10⟩
  have k010 := k09.trans k10
  have r5 := r5.keep k10
  have r6 := r6.keep k10
  have r8 := r8.keep k10
  have r9 := r9.keep k10
  have hI := fun (wx : World) (k : Keep w10 wx) => rInts_any a5 a8 n5 n8 (lA.map (fun x => ((x : Nat) : Int))) (lA.map (fun x => ((x : Nat) : Int))) wx (by simpa using hl1) (r5.keep k) (r8.keep k)
  have hJ := fun (wx : World) (k : Keep w10 wx) => rInts_any a6 a9 n6 n9 (lB.map (fun x => ((x : Nat) : Int))) (lB.map (fun x => ((x : Nat) : Int))) wx (by simpa using hl2) (r6.keep k) (r9.keep k)
  simp only [decide_true, List.length_map] at hI hJ
  clear hS hT hA hB hC hD hE hF
  go_wp2_with fail
  refine (hI _ (Keep.refl _)).mono ?_
  rintro e w11 ⟨rfl, k11⟩
  go_wp2_with fail
  refine (hJ _ k11).mono ?_
  rintro e w12 ⟨rfl, k12⟩
  go_wp2_with fail
  go_ret
  exact ⟨ret_bool (by simp), k010.trans (k11.trans k12)⟩
end Go.Proofs.Ytbchinfmdioijaa
set_option linter.unusedVariables false
set_option linter.unusedSimpArgs false
namespace Go.Proofs.Ytbchinfmdioijaa
open Go.RowKit Go.Shelf
set_option maxRecDepth 100000 in
theorem sums_any (a b : Option Addr) (ca cb : Nat) (la lb : List Int) (w : World) (hla : la.length ≤ 17592186044416) (ha : RdI w a la) (hb : RdI w b lb) :
    Calls Try.prog 31 #[.slice a la.length ca, .slice b lb.length cb] w fun e w' => e = .returned (.bool (decide (la = lb))) ∧ Keep w w' := by
  by_cases hl : la.length = lb.length
  · go_enter Try.func31, Try.ntmps31
    rw [← hl]
    replace hl : Hid _ := hl
    go_wp2_with fail
    go_loopw [13] (fun iv wr => ∃ k : Nat, k ≤ la.length ∧ iv = .int .i64 k ∧ Keep w wr ∧ Hid (∀ j, j < k → la.getD j 0 = lb.getD j 0)) (fun iv _ => la.length - (intOf iv).toNat)
    case atStart => exact ⟨0, by omega, rfl, Keep.refl w, by intro j hj; omega⟩
    case round =>
      obtain ⟨k, hk, rfl, kw, hinv⟩ := hrel
      by_cases hkl : k < la.length
      · have hkc : (k : Int) < (la.length : Int) := by omega
        have hkl2 : k < lb.length := by have := hl.out; omega
        obtain ⟨b1, o1, rfl, c1⟩ := (ha.keep kw) k hkl
        obtain ⟨b2, o2, rfl, c2⟩ := (hb.keep kw) k hkl2
        obtain ⟨x, hx⟩ : ∃ x, la.getD k 0 = x := ⟨_, rfl⟩
        obtain ⟨y, hy⟩ : ∃ y, lb.getD k 0 = y := ⟨_, rfl⟩
        rw [hx] at c1
        rw [hy] at c2
        have HX : Hid (la.getD k 0 = x ∧ lb.getD k 0 = y) := ⟨hx, hy⟩
        clear hx hy
        by_cases hxy : x = y
        · subst hxy
          have HN : Hid (∀ j, j < k + 1 → la.getD j 0 = lb.getD j 0) := by
            intro j hj
            by_cases e : j = k
            · subst e; rw [HX.out.1, HX.out.2]
            · exact hinv.out j (by omega)
          go_wp2_with fail
          go_region_with fail
          all_goals
            go_simp
            go_wp2_with fail
            go_roundw
            case rel => exact ⟨k + 1, by omega, by go_num, kw.drew, HN⟩
            case measure => simp [intOf]; omega
        · have hB : (x == y) = false := by simpa using hxy
          have hB2 : (x != y) = true := by simpa using hxy
          have HF : Hid (decide (la = lb) = false) := by
            show _ = _
            rw [decide_eq_false_iff_not]
            intro e
            have := HX.out
            rw [e] at this
            exact hxy (this.1.symm.trans this.2)
          clear hxy
          go_wp2_with fail
          go_region_with fail
          all_goals
            go_simp
            go_wp2_with fail
            go_ret
            exact ⟨ret_bool HF.out.symm, kw.drew⟩
      · have hkc : ¬ (k : Int) < (la.length : Int) := by omega
        have HT : Hid (decide (la = lb) = true) := decide_eq_true (int_ext hl.out (fun j hj => hinv.out j (by omega)))
        go_wp2_with fail
        go_ret
        exact ⟨ret_bool HT.out.symm, kw⟩
  · have hB : ((la.length : Int) == (lb.length : Int)) = false := by rw [beq_eq_false_iff_ne]; omega
    have hB2 : ((la.length : Int) != (lb.length : Int)) = true := by simp; omega
    have HF : Hid (decide (la = lb) = false) := by
      show _ = _
      rw [decide_eq_false_iff_not]
      intro e; rw [e] at hl; exact hl rfl
    go_enter Try.func31, Try.ntmps31
    go_wp2_with fail
    go_ret
    exact ⟨ret_bool HF.out.symm, Keep.refl _⟩
end Go.Proofs.Ytbchinfmdioijaa
