import Derived.Test.YtmkippkbodejkaaA5
namespace Go.Proofs.Ytmkippkbodejkaa
open Go.RowKit
set_option maxRecDepth 100000 in
set_option maxHeartbeats 800000 in
theorem same_any (a b : Option Addr) (ca cb : Nat) (l : List Int) (w : World) (hl : l.length ≤ 17592186044416) (ha : Rd w a l) (hb : Rd w b l) :
    Calls Try.prog 8 #[.slice a l.length ca, .slice b l.length cb] w fun e w' => e = .returned (.bool true) ∧ Keep w w' := by
  go_enter Try.func8, Try.ntmps8
  go_wp2_with fail
  go_loopw [5] (fun iv wr => ∃ k : Nat, k ≤ l.length ∧ iv = .int .i64 k ∧ Rd wr a l ∧ Rd wr b l ∧ Keep w wr) (fun iv _ => l.length - (intOf iv).toNat)
  case atStart => exact ⟨0, by omega, rfl, ha, hb, Keep.refl _⟩
  case round =>
    clear ha hb
    obtain ⟨k, hk, rfl, ha, hb, hkp⟩ := hrel
    by_cases hkl : k < l.length
    · obtain ⟨b1, o1, rfl, c1⟩ := ha k hkl
      obtain ⟨b2, o2, rfl, c2⟩ := hb k hkl
      generalize l.getD k 0 = v at c1 c2
      go_wp2_with fail
      go_quiet (fail)
      have ha' : Rd (wr.drewN nq) (some ⟨b1, o1, none⟩) l := ha
      have hb' : Rd (wr.drewN nq) (some ⟨b2, o2, none⟩) l := hb
      have hk' : Keep w (wr.drewN nq) := hkp.drewN nq
      clear ha hb hkp c1 c2
      generalize wr.drewN nq = w1 at ha' hb' hk' ⊢
      go_simp
      go_wp2_with fail
      go_roundw
      case rel => exact ⟨k + 1, by omega, by go_num, ha', hb', hk'⟩
      case measure => simp [intOf]; omega
    · go_wp2_with fail
      go_ret
      exact ⟨rfl, hkp⟩
theorem rd_two (w : World) (x y : Int) : Rd (w.alloc (Obj.cells #[Value.int IntKind.i64 x, Value.int IntKind.i64 y] 2)) (some ⟨w.heap.size, 0, none⟩) [x, y] := by
  have h1 : (w.alloc (Obj.cells #[Value.int IntKind.i64 x, Value.int IntKind.i64 y] 2)).heap[w.heap.size]? = some (Obj.cells #[Value.int IntKind.i64 x, Value.int IntKind.i64 y] 2 (0, 0)) := heap_alloc_new w _
  intro j hj
  refine ⟨_, _, rfl, ?_⟩
  rw [cell_of_row _ _ _ _ 2 (0, 0) h1]
  match j, hj with
  | 0, _ => rfl
  | 1, _ => rfl
theorem i2 : (Try.prog.info? 2).map (fun i => (i.zero, i.size, i.bytes)) = some (some (.int .i64 0), 1, 8) := by kernel_rfl
/-- given := append([]int64{}, l...). -/
theorem wpList_copy64 {w : World} {ops : Array Oper} {rest : List Oper} {o : Oper} {a : Act} {Q : Exit → Act → World → Prop} (hgd : o.guard = none) (s x : Operand)
    (ho : o.op = .call { callee := .builtin .append, args := #[s, x], argTypes := #[22, 22] }) (l : List Int) (ad : Addr) (c : Nat) (hs : a.eval s = .slice (some ⟨w.heap.size, 0, none⟩) 0 0)
    (hx : a.eval x = .slice (some ad) l.length c) (hr : Rd w (some ad) l) (hlen : l.length ≤ 17592186044416)
    (hK : ∀ g c' w1, Rd w1 (some ⟨g, 0, none⟩) l → Keep w w1 → wpList Try.prog ops Q rest (a.put o.dst (.slice (some ⟨g, 0, none⟩) l.length c')) w1) :
    wpList Try.prog ops Q (o :: rest) a (w.alloc (Obj.cells #[] 2)) := by
  obtain ⟨i0, hi, hz0, hz1, hz2⟩ : ∃ i, Try.prog.info? 2 = some i ∧ i.zero = some (.int .i64 0) ∧ i.size = 1 ∧ i.bytes = 8 := by
    have h := i2
    rw [Option.map_eq_some_iff] at h
    obtain ⟨i, h1, h2⟩ := h
    simp only [Prod.mk.injEq] at h2
    exact ⟨i, h1, h2.1, h2.2.1, h2.2.2⟩
  have hk : Keep w (w.alloc (Obj.cells #[] 2)) := (Keep.refl w).alloc _
  have hr' := hr.keep hk
  have hown : (w.alloc (Obj.cells #[] 2)).ownsRow w.heap.size 2 1 (.slice (some ⟨w.heap.size, 0, none⟩) 0 0) 0 [] := by
    refine ⟨rfl, .inr ⟨w.heap.size, 0, #[], rfl, Nat.le_refl _, heap_alloc_new w _, by omega, by decide, by simp, rfl⟩⟩
  refine wpList_append_own _ hgd s x 22 ho w.heap.size 2 i0 (.int .i64 0) 1 8 Try.underlying22 hi hz0 hz1 hz2 rfl (by decide) _ _ _ hs hown ad l.length c (l.map fun z => Value.int .i64 z) hx (by simp) ?_ ?_ ?_ ?_ ?_ ?_
  · intro j u hj
    rw [List.getElem?_map, Option.map_eq_some_iff] at hj
    obtain ⟨z, hz, rfl⟩ := hj
    have hjl := (List.getElem?_eq_some_iff.1 hz).1
    obtain ⟨b', o', e, hc⟩ := hr' j hjl
    simp only [Option.some.injEq] at e
    subst e
    have e3 : (Addr.mk b' o' none).add j = ⟨b', o' + j, none⟩ := by
      simp only [Addr.add]
      split <;> simp_all
    rw [e3, hc]
    simp [List.getD, hz]
  · intro u hu
    rw [List.mem_map] at hu
    obtain ⟨z, -, rfl⟩ := hu
    rfl
  · simp only [maxLen]; omega
  · omega
  · simp
  · intro v' w1 h1 h2 h3
    have hkk : Keep w w1 := by
      refine Below.grown hk h2 (by simp) ?_
      intro k hk'
      have : some k = some w.heap.size := hk'.symm ▸ rfl
      simp at this
      omega
    rcases h1.2 with ⟨e1, -⟩ | ⟨g, cap, cur, hv, hg, hh, p1, p2, p3, p4⟩
    · exact absurd (h3.1 e1).1 (by simp)
    · subst hv
      simp only [Nat.zero_add, List.nil_append, Nat.mul_one] at *
      refine hK g cap w1 ?_ hkk
      intro j hj
      refine ⟨g, 0, rfl, ?_⟩
      rw [Nat.zero_add, cell_of_row w1 g j cur 2 (0, 0) hh]
      have := congrArg (fun t => t[j]?) p4
      simp [hj] at this
      simp [this, List.getD, hj]
set_option maxRecDepth 100000 in
set_option maxHeartbeats 400000 in
theorem Add_any (x y : Int) (w : World) (hx : -9223372036854775808 ≤ x ∧ x ≤ 9223372036854775807) (hy : -9223372036854775808 ≤ y ∧ y ≤ 9223372036854775807) :
    Calls Try.prog 7 #[.int .i64 x, .int .i64 y] w fun e w' => e = .returned (.tuple #[.int .i64 (sumV (x + y)), .int .i64 (sumE (x + y))]) ∧ Keep w w' := by
  go_enter Try.func7, Try.ntmps7
  go_wp2_with fail
  have hk : Keep w (w.alloc (Obj.cells #[Value.int IntKind.i64 x, Value.int IntKind.i64 y] 2)) := (Keep.refl w).alloc _
  have hr := rd_two w x y
  generalize w.alloc _ = w1 at hk hr ⊢
  have hS := Sum_any (some ⟨w.heap.size, 0, none⟩) 2 [x, y] w1 (by simp) hr (by intro z hz; simp at hz; rcases hz with rfl | rfl; exact hx; exact hy)
  rw [show [x, y].sum = x + y by simp] at hS
  refine hS.mono ?_
  rintro e w2 ⟨rfl, k2⟩
  clear hS
  go_wp2_with fail
  go_ret2
  exact ⟨rfl, hk.trans k2⟩
set_option maxRecDepth 100000 in
set_option maxHeartbeats 400000 in
theorem law_sums (a : Option Addr) (ca : Nat) (l : List Int) (x y : Int) (w : World) (hca : l.length ≤ ca) (hl : l.length ≤ 17592186044416) (hr : Rd w a l) (hm : I64 l) (hx : -9223372036854775808 ≤ x ∧ x ≤ 9223372036854775807) (hy : -9223372036854775808 ≤ y ∧ y ≤ 9223372036854775807) :
    Calls Try.prog 3 #[.slice a l.length ca, .int .i64 x, .int .i64 y] w fun e w' => e = .returned (.bool true) ∧ Keep w w' := by
  have hA := fun wx => Add_any x y wx hx hy
  have hB := fun wx => rd_two wx x y
  have hm2 : I64 [x, y] := by intro z hz; simp at hz; rcases hz with rfl | rfl; exact hx; exact hy
  have hs2 : [x, y].sum = x + y := by simp
  rcases a with _ | ad
  · obtain rfl : l = [] := by
      by_cases h : l = []
      · exact h
      · obtain ⟨b, o, e, -⟩ := hr 0 (List.length_pos_iff.2 h); cases e
    simp only [List.length_nil] at *
    have k1 : Keep w (w.alloc (Obj.cells #[] 2)) := (Keep.refl w).alloc _
    have r1 : Rd (w.alloc (Obj.cells #[] 2)) (some ⟨w.heap.size, 0, none⟩) [] := Rd.nil _ _
    go_enter Try.func3, Try.ntmps3
    go_wp2_with fail
    generalize w.alloc _ = w1 at k1 r1 ⊢
    refine (Sum_any (some ⟨w.heap.size, 0, none⟩) 0 [] w1 (by simp) r1 hm).mono ?_
    rintro e w2 ⟨rfl, k2⟩
    have k02 := k1.trans k2
    go_wp2_with fail
    refine (rSum_any none ca [] w2 (by simp) (hr.keep k02) hm).mono ?_
    rintro e w3 ⟨rfl, k3⟩
    have k03 := k02.trans k3
    go_wp2_with fail
    refine (hA w3).mono ?_
    rintro e w4 ⟨rfl, k4⟩
    have k04 := k03.trans k4
    have hk5 : Keep w4 (w4.alloc (Obj.cells #[Value.int IntKind.i64 x, Value.int IntKind.i64 y] 2)) := (Keep.refl w4).alloc _
    have hr5 := hB w4
    go_wp2_with fail
    generalize w4.alloc _ = w5 at hk5 hr5 ⊢
    have k05 := k04.trans hk5
    have hS6 := rSum_any (some ⟨w4.heap.size, 0, none⟩) 2 [x, y] w5 (by simp) hr5 hm2
    rw [hs2] at hS6
    refine hS6.mono ?_
    rintro e w6 ⟨rfl, k6⟩
    have k06 := k05.trans k6
    clear hS6 hA
    have k16 := ((((k2.trans k3).trans k4).trans hk5).trans k6)
    generalize sumV ([] : List Int).sum = sv1
    generalize sumE ([] : List Int).sum = se1
    generalize sumV (x + y) = sv2
    generalize sumE (x + y) = se2
    have hS7 := same_any (some ⟨w.heap.size, 0, none⟩) none 0 ca [] w6 (by simp) (r1.keep k16) (hr.keep k06)
    go_wp2_with fail
    refine hS7.mono ?_
    rintro e w7 ⟨rfl, k7⟩
    go_wp2_with fail
    go_ret
    exact ⟨rfl, k06.trans k7⟩
  · go_enter Try.func3, Try.ntmps3
    go_wp2_with (at_builtin; refine wpList_copy64 rfl _ _ rfl l ad ca ?_ ?_ hr hl ?_; rotate_left 2; intro g c' w1 r1 k1)
    refine (Sum_any (some ⟨g, 0, none⟩) c' l w1 (by omega) r1 hm).mono ?_
    rintro e w2 ⟨rfl, k2⟩
    have k02 := k1.trans k2
    go_wp2_with fail
    refine (rSum_any (some ad) ca l w2 (by omega) (hr.keep k02) hm).mono ?_
    rintro e w3 ⟨rfl, k3⟩
    have k03 := k02.trans k3
    go_wp2_with fail
    refine (hA w3).mono ?_
    rintro e w4 ⟨rfl, k4⟩
    have k04 := k03.trans k4
    have hk5 : Keep w4 (w4.alloc (Obj.cells #[Value.int IntKind.i64 x, Value.int IntKind.i64 y] 2)) := (Keep.refl w4).alloc _
    have hr5 := hB w4
    go_wp2_with fail
    generalize w4.alloc _ = w5 at hk5 hr5 ⊢
    have k05 := k04.trans hk5
    have hS6 := rSum_any (some ⟨w4.heap.size, 0, none⟩) 2 [x, y] w5 (by simp) hr5 hm2
    rw [hs2] at hS6
    refine hS6.mono ?_
    rintro e w6 ⟨rfl, k6⟩
    have k06 := k05.trans k6
    clear hS6 hA
    have k16 := ((((k2.trans k3).trans k4).trans hk5).trans k6)
    generalize sumV l.sum = sv1
    generalize sumE l.sum = se1
    generalize sumV (x + y) = sv2
    generalize sumE (x + y) = se2
    have hS7 := same_any (some ⟨g, 0, none⟩) (some ad) c' ca l w6 (by omega) (r1.keep k16) (hr.keep k06)
    go_wp2_with fail
    refine hS7.mono ?_
    rintro e w7 ⟨rfl, k7⟩
    go_wp2_with fail
    go_ret
    exact ⟨rfl, k06.trans k7⟩
    all_goals rfl
end Go.Proofs.Ytmkippkbodejkaa
