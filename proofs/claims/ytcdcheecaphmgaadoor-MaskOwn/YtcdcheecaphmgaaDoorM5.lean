import Derived.Test.YtcdcheecaphmgaaDoorM4
set_option linter.unusedVariables false
set_option linter.unusedSimpArgs false
namespace Go.Proofs.YtcdcheecaphmgaaDoor
open Go.RowKit Go.Shelf
attribute [local go_sem] run_store_float
def sumB (f : BT → Nat) (Q : List (Nat × BT)) : Nat := (Q.map fun x => f x.2).sum
theorem sumB_snoc (f : BT → Nat) (Q : List (Nat × BT)) (x : Nat × BT) : sumB f (Q ++ [x]) = sumB f Q + f x.2 := by simp [sumB]
def nodesB : BT → Nat := fun b => b.pre.length
/-- What below holds between two rounds. -/
structure WIt (L : List Nd) (w : World) (a : Option Addr) (cap : Nat) (out : Int) (T n : Nat) (v : Value) (wr : World) (Q : List (Nat × BT)) : Prop where
  own : OwnQ (w.heap.size + 1) wr v (Q.map (·.1))
  tb : wr.heap[w.heap.size]? = some (Obj.cells #[Value.int IntKind.i64 out, Value.slice a L.length cap] 24 (0, 0))
  kp : Keep w wr
  bt : ∀ x ∈ Q, Bt (shp L) x.2 x.1 ∧ x.1 < L.length
  sum : n + sumB BT.nl Q = T
  few : Q.length ≤ T
theorem WIt.grow {L : List Nd} {w : World} {a : Option Addr} {cap : Nat} {out : Int} {T n : Nat} {v : Value} {wr : World} {Q Q2 : List (Nat × BT)} (h : WIt L w a cap out T n v wr Q) {W w7 : World} {v2 v7 : Value} {n7 : Nat} (kW : Keep wr W) (hv : ∀ b, v2.ownBlock = some b → w.heap.size + 1 ≤ b) (g7 : W.grownBy w7 v2.ownBlock) (hO : OwnQ (w.heap.size + 1) w7 v7 (Q2.map (·.1))) (hb : ∀ x ∈ Q2, Bt (shp L) x.2 x.1 ∧ x.1 < L.length) (hs : n7 + sumB BT.nl Q2 = T) (hf : Q2.length ≤ T) : WIt L w a cap out T n7 v7 w7 Q2 := by
  have hlt := (Array.getElem?_eq_some_iff.1 h.tb).1
  have h1 := kW.le
  refine ⟨hO, ?_, ?_, hb, hs, hf⟩
  · exact (g7.block _ (by omega) (fun e => by have := hv _ e.symm; omega)).trans ((kW.block _ hlt).trans h.tb)
  · exact Below.grown (h.kp.trans kW) g7 (by have := h.kp.le; omega) (fun b hb => by have := hv b hb; omega)
theorem WIt.leaf {L : List Nd} {w : World} {a : Option Addr} {cap : Nat} {out : Int} {T n : Nat} {v : Value} {wr : World} {Q Q2 : List (Nat × BT)} (h : WIt L w a cap out T n v wr Q) {W : World} {v7 : Value} {n7 : Nat} (kW : Keep wr W) (hO : OwnQ (w.heap.size + 1) wr v7 (Q2.map (·.1))) (hb : ∀ x ∈ Q2, Bt (shp L) x.2 x.1 ∧ x.1 < L.length) (hs : n7 + sumB BT.nl Q2 = T) (hf : Q2.length ≤ T) : WIt L w a cap out T n7 v7 W Q2 :=
  ⟨own_keep hO kW, (kW.block _ (Array.getElem?_eq_some_iff.1 h.tb).1).trans h.tb, h.kp.trans kW, hb, hs, hf⟩
theorem sumB_ge (Q : List (Nat × BT)) : Q.length ≤ sumB BT.nl Q := by
  induction Q with
  | nil => simp
  | cons x Q ih => have := x.2.nl_pos; simp only [sumB, List.map_cons, List.sum_cons, List.length_cons] at ih ⊢; omega
set_option maxRecDepth 100000 in
set_option maxHeartbeats 2000000 in
theorem rbelow_any (a : Option Addr) (cap : Nat) (out : Int) (L : List Nd) (hLn : L.length ≤ 2199023255552) (hR : Rgt L) {b : BT} {i : Nat} (hb : Bt (shp L) b i) (hi : i < L.length) (hn : b.nl ≤ 10000) (w : World) (hrd : RdN w a L) :
    Calls Tryd.prog 38 #[.agg #[.int .i64 out, .slice a L.length cap], .int .i64 (i : Nat)] w fun e w' => e = .returned (.int .i64 (b.nl : Nat)) ∧ Keep w w' := by
  have I0 : WIt L w a cap out b.nl 0 (.slice (some ⟨w.heap.size + 1, 0, none⟩) 1 1) ((w.alloc (Obj.cells #[Value.int IntKind.i64 out, Value.slice a L.length cap] 24)).alloc (Obj.cells #[Value.int IntKind.i64 (i : Nat)] 3)) [(i, b)] := by
    refine ⟨⟨by simp [UI], .inr ⟨w.heap.size + 1, 1, #[.int .i64 (i : Nat)], rfl, by omega, ?_, by simp, by simp only [maxLen]; omega, rfl, rfl⟩⟩, ?_, ((Keep.refl w).alloc _).alloc _, ?_, by simp [sumB], by have := b.nl_pos; simp; omega⟩
    · have := heap_alloc_new (w.alloc (Obj.cells #[Value.int IntKind.i64 out, Value.slice a L.length cap] 24)) (Obj.cells #[Value.int IntKind.i64 (i : Nat)] 3)
      rw [World.size_alloc] at this
      exact this
    · exact (Below.heap_alloc _ _ _ (by simp)).trans (heap_alloc_new w _)
    · intro x hx
      simp only [List.mem_singleton] at hx
      subst hx
      exact ⟨hb, hi⟩
  replace I0 : Hid _ := I0
  go_enter Tryd.func38, Tryd.ntmps38
  go_wp2_with fail
  generalize (w.alloc (Obj.cells #[Value.int IntKind.i64 out, Value.slice a L.length cap] 24)).alloc (Obj.cells #[Value.int IntKind.i64 (i : Nat)] 3) = wE at I0 ⊢
  go_loopg [5, 6] (nodesB b) (fun gg s5 s6 wr => ∃ (n : Nat) (Q : List (Nat × BT)), s5 = .int .i64 (n : Nat) ∧ WIt L w a cap out b.nl n s6 wr Q ∧ gg = sumB nodesB Q)
  case atStart => exact ⟨0, [(i, b)], rfl, I0.out, by simp [sumB]⟩
  case round =>
    clear I0
    obtain ⟨n, Q, rfl, hI, rfl⟩ := hrel
    rcases List.eq_nil_or_concat Q with rfl | ⟨Q1, x, rfl⟩
    · obtain ⟨av, cv, hv, -⟩ := hI.own.nilOr
      simp only [List.map_nil, List.length_nil] at hv
      subst hv
      have hs := hI.sum
      simp only [sumB, List.map_nil, List.sum_nil, Nat.add_zero] at hs
      replace hs : Hid _ := hs
      go_wp2_with fail
      go_ret
      exact ⟨ret_int (by rw [hs.out]), hI.kp⟩
    · obtain ⟨k, c⟩ := x
      obtain ⟨hBt, hk⟩ := hI.bt (k, c) (by simp)
      have hO := hI.own
      rw [List.concat_eq_append, List.map_append, List.map_cons, List.map_nil] at hO
      obtain ⟨g, cp, hv, hg, hcp, hcell, hO1⟩ := hO.cells
      simp only [List.length_map] at hBt hk hcell hv hcp hO1
      subst hv
      have hlt1 := sumB_ge (Q1 ++ [(k, c)])
      have hsum := hI.sum
      rw [List.concat_eq_append, sumB_snoc] at hsum
      rw [sumB_snoc] at hlt1
      simp only [List.length_append, List.length_cons, List.length_nil] at hlt1
      simp only at hsum hlt1
      have hq1 : ∀ x ∈ Q1, Bt (shp L) x.2 x.1 ∧ x.1 < L.length := fun x hx => hI.bt x (by simp [hx])
      obtain ⟨bb, o, ca, cpn, rfl, hN⟩ := hrd.keep hI.kp k hk
      obtain ⟨N, hNd⟩ : ∃ N, L.getD k nd0 = N := ⟨_, rfl⟩
      have HK : Hid ((shp L).K k = decide (N.kd = 2 ∨ N.kd = 3)) := by show _ = _; rw [← hNd]; rfl
      have kk := fun hK => hR.kids hk hK
      have hlf := fun hK => hR.leaf hk hK
      rw [hNd] at hN kk hlf
      replace hNd : Hid _ := hNd
      have c0 := hN.c0
      have c1 := hN.c1
      have c2 := hN.c2
      have c3 := hN.c3
      have c4 := hN.c4
      have c5 := hN.c5
      have c6 := hN.c6
      have c7 := hN.c7
      have kA := fun ob => (Keep.refl wr).alloc ob
      have d0 := fun ob => (kA ob).cell c0
      have d1 := fun ob => (kA ob).cell c1
      have d2 := fun ob => (kA ob).cell c2
      have d3 := fun ob => (kA ob).cell c3
      have d4 := fun ob => (kA ob).cell c4
      have d5 := fun ob => (kA ob).cell c5
      have d6 := fun ob => (kA ob).cell c6
      have d7 := fun ob => (kA ob).cell c7
      have x1 := cell_of_row _ _ 1 _ 24 (0, 0) hI.tb
      simp only [List.getElem?_toArray, List.getElem?_cons_zero, List.getElem?_cons_succ] at x1
      have y1 := fun ob => (kA ob).cell x1
      have z1 := fun ob => (kA ob).cell hcell
      have hkL : (k : Int) < (L.length : Int) := by omega
      have hkb : k ≤ 2199023255552 := by omega
      have hql : Q1.length ≤ 10000 := by omega
      replace hI : Hid _ := hI
      replace hO1 : Hid _ := hO1
      replace kA : Hid _ := kA
      clear hN hO
      go_wp2_with fail
      go_region
      all_goals
        have kW : Keep wr (wr.alloc (Obj.cells #[Value.int IntKind.u8 N.kd, Value.int IntKind.i64 N.vl, Value.int IntKind.i64 N.ft, Value.float FloatKind.f64 N.th, Value.slice ca N.cs.length cpn, Value.int IntKind.u8 N.ms, Value.int IntKind.i64 N.lf, Value.int IntKind.i64 N.rt] 63)).drew := ((Keep.refl wr).alloc _).drew
        have tx : (wr.alloc (Obj.cells #[Value.int IntKind.u8 N.kd, Value.int IntKind.i64 N.vl, Value.int IntKind.i64 N.ft, Value.float FloatKind.f64 N.th, Value.slice ca N.cs.length cpn, Value.int IntKind.u8 N.ms, Value.int IntKind.i64 N.lf, Value.int IntKind.i64 N.rt] 63)).drew.heap[wr.heap.size]? = some (Obj.cells #[Value.int IntKind.u8 N.kd, Value.int IntKind.i64 N.vl, Value.int IntKind.i64 N.ft, Value.float FloatKind.f64 N.th, Value.slice ca N.cs.length cpn, Value.int IntKind.u8 N.ms, Value.int IntKind.i64 N.lf, Value.int IntKind.i64 N.rt] 63 (0, 0)) := heap_alloc_new wr _
        clear c0 c1 c2 c3 c4 c5 c6 c7 d0 d1 d2 d3 d4 d5 d6 d7 x1 y1 z1 hcell kA
        generalize (wr.alloc (Obj.cells #[Value.int IntKind.u8 N.kd, Value.int IntKind.i64 N.vl, Value.int IntKind.i64 N.ft, Value.float FloatKind.f64 N.th, Value.slice ca N.cs.length cpn, Value.int IntKind.u8 N.ms, Value.int IntKind.i64 N.lf, Value.int IntKind.i64 N.rt] 63)).drew = W at *
        have e0 := cell_of_row _ _ 0 _ 63 (0, 0) tx
        have e6 := cell_of_row _ _ 6 _ 63 (0, 0) tx
        have e7 := cell_of_row _ _ 7 _ 63 (0, 0) tx
        simp only [List.getElem?_toArray, List.getElem?_cons_zero, List.getElem?_cons_succ] at e0 e6 e7
        replace tx : Hid _ := tx
        cases hBt with
        | leaf hK =>
          have hkd := hlf hK
          rw [hkd] at e0
          have hW := hI.out.leaf (Q2 := Q1) (n7 := n + 1) kW hO1.out hq1 (by simp only [BT.nl] at hsum; omega) (by simp only [BT.nl] at hlt1; omega)
          replace hW : Hid _ := hW
          clear hkd hlf kk HK
          go_simp
          go_wp2_with fail
          go_roundg (sumB nodesB Q1)
          case measure => rw [List.concat_eq_append, sumB_snoc]; simp [nodesB, BT.pre]
          case rel => exact ⟨n + 1, Q1, by go_num, hW.out, rfl⟩
        | @node _ l r hK hl hr =>
          obtain ⟨⟨f6, hA, -⟩, f7, hB, -⟩ := kk hK
          have cE : ((N.kd : Int) == 1) = false := by
            have h1 := HK.out
            rw [hK] at h1
            simp only [eq_comm (a := true), decide_eq_true_eq] at h1
            rw [beq_eq_false_iff_ne]; omega
          rw [f6] at e6
          rw [f7] at e7
          clear kk hlf HK
          replace f6 : Hid _ := f6
          replace f7 : Hid _ := f7
          have hOw : OwnQ _ _ _ _ := own_keep hO1.out (kW.alloc (Obj.cells #[Value.int .i64 ((shp L).A k : Nat), Value.int .i64 ((shp L).B k : Nat)] 3))
          have hle := hI.out.kp.le
          have hle2 := kW.le
          have hlt0 := (Array.getElem?_eq_some_iff.1 hI.out.tb).1
          replace hOw : Hid _ := hOw
          have hB7 : w.heap.size + 1 ≤ (W.alloc (Obj.cells #[Value.int .i64 ((shp L).A k : Nat), Value.int .i64 ((shp L).B k : Nat)] 3)).heap.size := by rw [World.size_alloc]; omega
          have hL7 : (Q1.map (·.1)).length + [(shp L).A k, (shp L).B k].length ≤ 17592186044416 := by rw [List.length_map]; simp only [List.length_cons, List.length_nil]; omega
          have hN7 := news2 W ((shp L).A k) ((shp L).B k)
          replace hB7 : Hid _ := hB7
          replace hL7 : Hid _ := hL7
          replace hN7 : Hid _ := hN7
          go_simp
          go_wp2_with (at_builtin; refine wpList_appQ (w.heap.size + 1) _ rfl _ _ rfl (Q1.map (·.1)) [(shp L).A k, (shp L).B k] (.slice (some ⟨g, 0, none⟩) Q1.length cp) ?_ ?_ ?_ ⟨W.heap.size, 0, none⟩ 2 2 ?_ rfl ?_ ?_ ?_; rfl; exact hOw.out; exact hB7.out; rfl; exact hN7.out; exact hL7.out; intro v7 w7 hO7 g7; have hO7' : OwnQ _ _ _ _ := hO7; obtain ⟨a7, c7, rfl, -⟩ := hO7'.nilOr)
          have hW := hI.out.grow (Q2 := Q1 ++ [((shp L).A k, l), ((shp L).B k, r)]) (n7 := n) (kW.alloc (Obj.cells #[Value.int .i64 ((shp L).A k : Nat), Value.int .i64 ((shp L).B k : Nat)] 3)) (v2 := .slice (some ⟨g, 0, none⟩) Q1.length cp) (fun b hb => (own_block hO1.out hb).1) g7 (by rw [List.map_append]; exact hO7) (by
            intro x hx
            simp only [List.mem_append, List.mem_cons, List.not_mem_nil, or_false] at hx
            rcases hx with hx | rfl | rfl
            · exact hq1 x hx
            · exact ⟨hl, hA⟩
            · exact ⟨hr, hB⟩) (by simp only [sumB, List.map_append, List.map_cons, List.map_nil, List.sum_append, List.sum_cons, List.sum_nil, BT.nl] at hsum ⊢; omega) (by have p1 := l.nl_pos; have p2 := r.nl_pos; simp only [BT.nl, List.length_append, List.length_cons, List.length_nil] at hlt1 hsum ⊢; have := sumB_ge Q1; omega)
          rw [show (List.map (fun x => x.fst) Q1 ++ [(shp L).A k, (shp L).B k]).length = Q1.length + 2 by simp] at hW
          replace hW : Hid _ := hW
          clear hO7 hO7' g7
          go_wp2_with fail
          go_roundg (sumB nodesB (Q1 ++ [((shp L).A k, l), ((shp L).B k, r)]))
          case measure => simp [sumB, nodesB, BT.pre]
          case rel => exact ⟨n, _, rfl, hW.out, rfl⟩
end Go.Proofs.YtcdcheecaphmgaaDoor
