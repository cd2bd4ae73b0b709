import Derived.Test.YtbchinfmdioijaaR5
set_option linter.unusedVariables false
set_option linter.unusedSimpArgs false
namespace Go.Proofs.Ytbchinfmdioijaa
open Go.RowKit Go.Shelf
set_option maxRecDepth 100000 in
set_option maxHeartbeats 1000000 in
theorem rWay_err (a ax : Option Addr) (cap cx m : Nat) (out : Int) (L : List Nd) (hLn : L.length ≤ 2199023255552) (hE : shE L ≠ 0) (w : World) (hrd : RdN w a L) :
    Calls Try.prog 25 #[.agg #[.int .i64 out, .slice a L.length cap], .slice ax m cx] w fun e w' => e = .returned (.tuple #[.slice none 0 0, .int .i64 (shE L)]) ∧ Keep w w' := by
  have hS := fun (wx : World) (k : Keep w wx) => rShape_any wx a cap out L hLn (hrd.keep k)
  have hB : (shE L == 0) = false := by simpa using hE
  have hB2 : (shE L != 0) = true := by simpa using hE
  have k0 : Keep w (w.alloc (Obj.cells #[Value.int IntKind.i64 out, Value.slice a L.length cap] 24)) := (Keep.refl w).alloc _
  clear hE
  generalize shE L = E at *
  go_enter Try.func25, Try.ntmps25
  go_wp2_with fail
  refine (hS _ k0).mono ?_
  rintro e w2 ⟨rfl, k2⟩
  go_wp2_with fail
  go_ret2
  exact ⟨rfl, k0.trans k2⟩
set_option maxRecDepth 100000 in
set_option maxHeartbeats 1000000 in
theorem rWay_lack (a ax : Option Addr) (cap cx m : Nat) (out : Int) (L : List Nd) (hLn : L.length ≤ 2199023255552) (hE : shE L = 0) (hlk : lackB L m = true) (w : World) (hrd : RdN w a L) :
    Calls Try.prog 25 #[.agg #[.int .i64 out, .slice a L.length cap], .slice ax m cx] w fun e w' => e = .returned (.tuple #[.slice none 0 0, .int .i64 72]) ∧ Keep w w' := by
  have hS := fun (wx : World) (k : Keep w wx) => rShape_any wx a cap out L hLn (hrd.keep k)
  have hF := fun (wx : World) (k : Keep w wx) => rFits_any wx a cap m out L hLn (shE_rgt hE) (hrd.keep k)
  rw [hE] at hS
  rw [hlk] at hF
  have k0 : Keep w (w.alloc (Obj.cells #[Value.int IntKind.i64 out, Value.slice a L.length cap] 24)) := (Keep.refl w).alloc _
  have tb : (w.alloc (Obj.cells #[Value.int IntKind.i64 out, Value.slice a L.length cap] 24)).heap[w.heap.size]? = some (Obj.cells #[Value.int IntKind.i64 out, Value.slice a L.length cap] 24 (0, 0)) := heap_alloc_new w _
  go_enter Try.func25, Try.ntmps25
  go_wp2_with fail
  generalize w.alloc _ = w1 at k0 tb ⊢
  refine (hS _ k0).mono ?_
  rintro e w2 ⟨rfl, k2⟩
  have k02 := k0.trans k2
  have hz1 : w.heap.size < w1.heap.size := (Array.getElem?_eq_some_iff.1 tb).1
  have tb2 := (k2.block _ hz1).trans tb
  have c0 : w2.cell? ⟨w.heap.size, 0, none⟩ = some (.int .i64 out) := by rw [cell_of_row _ _ 0 _ 24 (0, 0) tb2]; rfl
  have c1 : w2.cell? ⟨w.heap.size, 1, none⟩ = some (.slice a L.length cap) := by rw [cell_of_row _ _ 1 _ 24 (0, 0) tb2]; rfl
  go_wp2_with fail
  refine (hF _ k02).mono ?_
  rintro e w3 ⟨rfl, k3⟩
  go_wp2_with fail
  go_ret2
  exact ⟨rfl, k02.trans k3⟩
theorem rWay_any (a ax : Option Addr) (cap cx : Nat) (out : Int) (L : List Nd) (xs : List Nat) (hLn : L.length ≤ 2199023255552) (hxl : xs.length ≤ 17592186044416) (w : World) (hrd : RdN w a L) (hxd : RdF w ax xs) :
    Calls Try.prog 25 #[.agg #[.int .i64 out, .slice a L.length cap], .slice ax xs.length cx] w (LstE w (wyL L xs) (wyE L xs.length)) := by
  by_cases hE : shE L = 0
  · cases hlk : lackB L xs.length
    · have e0 : wyE L xs.length = 0 := by unfold wyE; rw [if_pos hE, hlk]; rfl
      refine ((callsIn_wide (n := 3)).1 (rWay_in 3 (by omega) a ax cap cx out L xs hLn hxl hE hlk w hrd hxd)).mono ?_
      rintro e w' ⟨v, rfl, h1, h2, h3⟩
      refine ⟨v, by rw [e0], ?_, h2, h3⟩
      unfold wyL; rw [if_pos e0]; exact h1
    · have e0 : wyE L xs.length = 72 := by unfold wyE; rw [if_pos hE, hlk]; rfl
      refine (rWay_lack a ax cap cx xs.length out L hLn hE hlk w hrd).mono ?_
      rintro e w' ⟨rfl, h3⟩
      refine ⟨_, by rw [e0], ?_, fun b hb => (by cases hb), h3⟩
      unfold wyL; rw [if_neg (by rw [e0]; decide)]; exact OwnI.nil _
  · have e0 : wyE L xs.length = shE L := by unfold wyE; rw [if_neg hE]
    refine (rWay_err a ax cap cx xs.length out L hLn hE w hrd).mono ?_
    rintro e w' ⟨rfl, h3⟩
    refine ⟨_, by rw [e0], ?_, fun b hb => (by cases hb), h3⟩
    unfold wyL; rw [if_neg (by rw [e0]; exact hE)]; exact OwnI.nil _
/-- A leaf's place among the leaves. -/
theorem plc_at {L : List Nd} {en : Nat} (hE : shE L = 0) (hen : en < L.length) (hK : (shp L).K en = false) : ∃ q, lvs L = ((ord (shp L) L.length).takeWhile (fun i => decide (i ≠ en))).filter (fun i => (!decide ((L.getD i nd0).kd = 2 ∨ (L.getD i nd0).kd = 3))) ++ en :: q ∧ en ∉ ((ord (shp L) L.length).takeWhile (fun i => decide (i ≠ en))).filter (fun i => (!decide ((L.getD i nd0).kd = 2 ∨ (L.getD i nd0).kd = 3))) := by
  have hm : en ∈ ord (shp L) L.length := ord_all (shE_tr hE) hen
  obtain ⟨p, q, hpq, hp⟩ : ∃ p q, ord (shp L) L.length = p ++ en :: q ∧ en ∉ p := List.eq_append_cons_of_mem hm
  have htw : (ord (shp L) L.length).takeWhile (fun i => decide (i ≠ en)) = p := takeWhile_pre ⟨q, by rw [hpq]; simp⟩ hp
  rw [htw]
  have hKe : (!decide ((L.getD en nd0).kd = 2 ∨ (L.getD en nd0).kd = 3)) = true := by
    have : (shp L).K en = decide ((L.getD en nd0).kd = 2 ∨ (L.getD en nd0).kd = 3) := rfl
    rw [← this, hK]; rfl
  refine ⟨q.filter (fun i => (!decide ((L.getD i nd0).kd = 2 ∨ (L.getD i nd0).kd = 3))), ?_, fun h => hp (List.mem_filter.1 h).1⟩
  unfold lvs
  rw [if_pos hE, hpq, List.filter_append, List.filter_cons, if_pos hKe]
set_option maxRecDepth 100000 in
set_option maxHeartbeats 2000000 in
theorem rLeaf_any (a ax : Option Addr) (cap cx : Nat) (out : Int) (L : List Nd) (xs : List Nat) (hLn : L.length ≤ 2199023255552) (hxl : xs.length ≤ 17592186044416) (w : World) (hrd : RdN w a L) (hxd : RdF w ax xs) :
    Calls Try.prog 27 #[.agg #[.int .i64 out, .slice a L.length cap], .slice ax xs.length cx] w fun e w' => e = .returned (.tuple #[.int .i64 (lfK L xs : Nat), .int .i64 (lfV L xs), .int .i64 (wyE L xs.length)]) ∧ Keep w w' := by
  have hW := fun (wx : World) (k : Keep w wx) => rWay_any a ax cap cx out L xs hLn hxl wx (hrd.keep k) (hxd.keep k)
  have hL := fun (wx : World) (k : Keep w wx) => rLeaves_any a cap out L hLn wx (hrd.keep k)
  have k0 : Keep w (w.alloc (Obj.cells #[Value.int IntKind.i64 out, Value.slice a L.length cap] 24)) := (Keep.refl w).alloc _
  have tb : (w.alloc (Obj.cells #[Value.int IntKind.i64 out, Value.slice a L.length cap] 24)).heap[w.heap.size]? = some (Obj.cells #[Value.int IntKind.i64 out, Value.slice a L.length cap] 24 (0, 0)) := heap_alloc_new w _
  have hW1 := hW _ k0
  clear hW
  by_cases hE : wyE L xs.length = 0
  · obtain ⟨hS, hlk⟩ := wyE_ok hE
    obtain ⟨l, hl, hK, hen, hll⟩ := way_last (xs := xs) hS
    have HR : Hid (lfK L xs = plc L (endN L xs) ∧ lfV L xs = (L.getD (endN L xs) nd0).vl ∧ wyE L xs.length = 0) := ⟨by unfold lfK; rw [if_pos hE], by unfold lfV; rw [if_pos hE], hE⟩
    have hy : wyL L xs = l ++ [endN L xs] := by unfold wyL; rw [if_pos hE]; exact hl
    obtain ⟨q, hlv, hnp⟩ := plc_at hS hen hK
    have hpl : plc L (endN L xs) = (((ord (shp L) L.length).takeWhile (fun i => decide (i ≠ endN L xs))).filter (fun i => (!decide ((L.getD i nd0).kd = 2 ∨ (L.getD i nd0).kd = 3)))).length := rfl
    rw [hS, hlv] at hL
    rw [hE, hy] at hW1
    rw [hl] at hll
    have hlo : (lvs L).length ≤ L.length := by
      unfold lvs; rw [if_pos hS]
      have := List.length_filter_le (fun i => (!decide ((L.getD i nd0).kd = 2 ∨ (L.getD i nd0).kd = 3))) (ord (shp L) L.length)
      have := ord_len (shE_rgt hS).wi
      omega
    rw [hlv] at hlo
    simp only [List.length_append, List.length_singleton, List.length_cons] at hll hlo
    generalize ((ord (shp L) L.length).takeWhile (fun i => decide (i ≠ endN L xs))).filter (fun i => (!decide ((L.getD i nd0).kd = 2 ∨ (L.getD i nd0).kd = 3))) = p at *
    generalize endN L xs = en at *
    have HP : Hid (plc L en = p.length) := hpl
    clear hl hK hy hE hS hlk hpl hlv
    go_enter Try.func27, Try.ntmps27
    go_wp2_with fail
    generalize w.alloc _ = w1 at k0 tb hW1 ⊢
    refine hW1.mono ?_
    rintro e w2 ⟨v, rfl, ho, hb, k2⟩
    obtain ⟨g, cv, rfl, hcv, hg, hcell⟩ := ho.cells (by simp)
    have hce := hcell l.length (by simp)
    rw [show (l ++ [en]).getD l.length 0 = en by simp [List.getD]] at hce
    have hz1 : w.heap.size < w1.heap.size := (Array.getElem?_eq_some_iff.1 tb).1
    have tb2 := (k2.block _ hz1).trans tb
    have c0 : w2.cell? ⟨w.heap.size, 0, none⟩ = some (.int .i64 out) := by rw [cell_of_row _ _ 0 _ 24 (0, 0) tb2]; rfl
    have c1 : w2.cell? ⟨w.heap.size, 1, none⟩ = some (.slice a L.length cap) := by rw [cell_of_row _ _ 1 _ 24 (0, 0) tb2]; rfl
    have k02 := k0.trans k2
    have hlen : (l ++ [en]).length = l.length + 1 := by simp
    rw [hlen] at hcv ⊢
    clear ho hb hcell hlen hW1
    go_wp2_with fail
    refine (hL _ k02).mono ?_
    rintro e w3 ⟨v, rfl, ho, hb, k3⟩
    obtain ⟨g3, cv3, rfl, hcv3, hg3, hcell3⟩ := ho.cells (by simp; omega)
    have hce3 := k3.cell hce
    have c13 := k3.cell c1
    have k03 := k02.trans k3
    obtain ⟨b, o, ca, cp, rfl, hnd⟩ := (hrd.keep k03) en hen
    have hv := hnd.c1
    have hei : (en : Int) < (L.length : Int) := by omega
    have hlen3 : (p ++ en :: q).length = p.length + 1 + q.length := by simp; omega
    clear ho hb hL hnd k0 k2 k3 k02 c0 c1 hce tb tb2
    generalize (L.getD en nd0).vl = V at hv HR
    rw [hlen3]
    go_wp2_with fail
    go_loop [29] (fun iv => ∃ k : Nat, k ≤ p.length ∧ iv = .int .i64 k) (fun iv => p.length + 1 - (intOf iv).toNat)
    case atStart => exact ⟨0, by omega, rfl⟩
    case round =>
      obtain ⟨k, hk, rfl⟩ := hrel
      have hkc : (k : Int) < ((p.length + 1 + q.length : Nat) : Int) := by omega
      have hkc2 : (k : Int) < (p.length : Int) + 1 + (q.length : Int) := by omega
      by_cases hkp : k < p.length
      · have hx : g3 = g3 ∧ w3.cell? ⟨g3, k, none⟩ = some (.int .i64 ((p.getD k 0 : Nat) : Int)) := ⟨rfl, by rw [hcell3 k (by omega)]; simp [List.getD, List.getElem?_append_left, hkp]⟩
        have hne : p.getD k 0 ≠ en := fun e => hnp (by rw [← e]; simp [List.getD, hkp])
        obtain ⟨-, hx⟩ := hx
        generalize p.getD k 0 = x at *
        have q1 : ((x : Int) == (en : Int)) = false := by rw [beq_eq_false_iff_ne]; omega
        clear hcell3
        go_wp2_with fail
        go_round
        case rel => exact ⟨k + 1, by omega, by go_num⟩
        case measure => simp [intOf]; omega
      · have hke : k = p.length := by omega
        have hx : w3.cell? ⟨g3, k, none⟩ = some (.int .i64 (en : Nat)) := by rw [hcell3 k (by omega)]; simp [List.getD, hke]
        have HKE : Hid (k = p.length) := hke
        clear hcell3 hke
        go_wp2_with fail
        go_region_with fail
        all_goals
          go_simp
          go_wp2_with fail
          go_ret3
          obtain ⟨r1, r2, r3⟩ := HR.out
          rw [r1, r2, r3, HP.out, ← HKE.out]
          exact ⟨rfl, k03.drew⟩
  · have HR : Hid (lfK L xs = 0 ∧ lfV L xs = 0) := ⟨by unfold lfK; rw [if_neg hE], by unfold lfV; rw [if_neg hE]⟩
    have hB : (wyE L xs.length == 0) = false := by simpa using hE
    have hB2 : (wyE L xs.length != 0) = true := by simpa using hE
    generalize wyE L xs.length = E at *
    go_enter Try.func27, Try.ntmps27
    go_wp2_with fail
    generalize w.alloc _ = w1 at k0 tb hW1 ⊢
    refine hW1.mono ?_
    rintro e w2 ⟨v, rfl, ho, hb, k2⟩
    go_wp2_with fail
    go_ret3
    rw [HR.out.1, HR.out.2]
    exact ⟨rfl, k0.trans k2⟩
end Go.Proofs.Ytbchinfmdioijaa
