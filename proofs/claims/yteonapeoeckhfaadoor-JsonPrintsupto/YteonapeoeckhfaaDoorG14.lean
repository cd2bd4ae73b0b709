import Derived.Test.YteonapeoeckhfaaDoorG13
set_option linter.unusedVariables false
set_option linter.unusedSimpArgs false
namespace Go.Proofs.YteonapeoeckhfaaDoor
open Go.RowKit
theorem boxes3g (w : World) (u v x : Array Value) (t1 t2 t3 : Nat) : ∃ w4, ((w.alloc (Obj.cells u t1)).alloc (Obj.cells v t2)).alloc (Obj.cells x t3) = w4 ∧ Keep w w4 ∧ w4.heap.size = w.heap.size + 3 ∧
    w4.heap[w.heap.size]? = some (Obj.cells u t1 (0, 0)) ∧ w4.heap[w.heap.size + 1]? = some (Obj.cells v t2 (0, 0)) ∧ w4.heap[w.heap.size + 1 + 1]? = some (Obj.cells x t3 (0, 0)) := by
  refine ⟨_, rfl, (((Keep.refl w).alloc _).alloc _).alloc _, by simp, ?_, ?_, ?_⟩
  · exact (Below.heap_alloc _ _ _ (by simp; omega)).trans ((Below.heap_alloc _ _ _ (by simp)).trans (heap_alloc_new w _))
  · have := heap_alloc_new (w.alloc (Obj.cells u t1)) (Obj.cells v t2)
    rw [World.size_alloc] at this
    exact (Below.heap_alloc _ _ _ (by simp)).trans this
  · have := heap_alloc_new ((w.alloc (Obj.cells u t1)).alloc (Obj.cells v t2)) (Obj.cells x t3)
    rw [World.size_alloc, World.size_alloc] at this
    exact this
theorem take_next (l : List ByteArray) (i : Nat) (h : i < l.length) : l.take i ++ [l.getD i ByteArray.empty] = l.take (i + 1) := by
  rw [List.take_add_one]
  simp [List.getD, h]
theorem CN.box3 {w : World} {A0 : Array Value} {B H : Nat} {kv tv v xv : Value} {wr : World} (hI : CN w A0 B H kv tv v xv wr) (v0 v1 v2 v3 : Value) (hB : w.heap.size + 1 < B) (hH : B < H) :
    ((((wr.setCell ⟨w.heap.size + 1, 0, none⟩ v0).setCell ⟨w.heap.size + 1, 1, none⟩ v1).setCell ⟨w.heap.size + 1, 2, none⟩ v2).setCell ⟨w.heap.size + 1, 3, none⟩ v3).heap[w.heap.size + 1]? = some (.cells #[v0, v1, v2, v3] 27 (0, 0)) ∧
    Keep w ((((wr.setCell ⟨w.heap.size + 1, 0, none⟩ v0).setCell ⟨w.heap.size + 1, 1, none⟩ v1).setCell ⟨w.heap.size + 1, 2, none⟩ v2).setCell ⟨w.heap.size + 1, 3, none⟩ v3) :=
  ⟨heap4 wr _ _ _ _ _ hI.a1, (((hI.kp.setCell (p := ⟨w.heap.size + 1, 0, none⟩) (Nat.le_succ _) _).setCell (p := ⟨w.heap.size + 1, 1, none⟩) (Nat.le_succ _) _).setCell (p := ⟨w.heap.size + 1, 2, none⟩) (Nat.le_succ _) _).setCell (p := ⟨w.heap.size + 1, 3, none⟩) (Nat.le_succ _) _⟩
set_option maxRecDepth 100000 in
set_option maxHeartbeats 2000000 in
theorem rCopy_in : ∀ (n : Nat) (j : J) (v : Value) (w : World), SizeOf.sizeOf j ≤ n → RdV w v j → Fit j →
    Calls Tryd.prog 12 #[v] w fun e w' => ∃ v', e = .returned v' ∧ RdW w' (fun b => w.heap.size ≤ b) v' j ∧ Keep w w' := by
  intro n
  induction n with
  | zero => intro j v w hs; cases j; simp at hs
  | succ n ih =>
    intro j v w hs hv hF
    cases hv with
    | mk k t ns is an cn ai ci X hk hn ln li hx hr =>
    cases hF with
    | mk _ _ _ _ f1 f2 f3 f4 f5 =>
    have hlt : ∀ i, i < is.length → SizeOf.sizeOf (is.getD i j0) ≤ n := fun i hi => by
      have := J.is_lt (a := .mk k t ns is) (i := i) hi
      simp only [J.is] at this
      omega
    obtain ⟨w1, hw1, k1, s1, r0, r1, r2⟩ := boxes3g w #[.int .u8 (k : Nat), .string t, .slice an ns.length cn, .slice ai is.length ci] #[.int .u8 0, .string { data := #[] }, .slice none 0 0, .slice none 0 0] #[.int .u8 (k : Nat), .string t, .slice none 0 0, .slice none 0 0] 27 27 27
    have hC1 : CN w #[.int .u8 (k : Nat), .string t, .slice an ns.length cn, .slice ai is.length ci] (w.heap.size + 1 + 1) (w.heap.size + 3) (.int .u8 (k : Nat)) (.string t) (.slice none 0 0) (.slice none 0 0) w1 := ⟨k1, r0, r1, r2, by omega⟩
    replace hC1 : Hid _ := hC1
    replace ih : Hid _ := ih
    replace hlt : Hid _ := hlt
    replace hx : Hid _ := hx
    replace hr : Hid _ := hr
    replace hw1 : Hid _ := hw1
    replace f5 : Hid _ := f5
    replace f3 : Hid _ := f3
    clear r0 r1 r2 k1 s1
    go_enter Tryd.func12, Tryd.ntmps12
    go_wp2_with fail
    rw [hw1.out]
    go_loopw [4] (fun iv wr => ∃ (i : Nat) (v : Value), i ≤ ns.length ∧ iv = .int .i64 i ∧ CN w #[.int .u8 (k : Nat), .string t, .slice an ns.length cn, .slice ai is.length ci] (w.heap.size + 1 + 1) (w.heap.size + 3) (.int .u8 (k : Nat)) (.string t) v (.slice none 0 0) wr ∧ OwnS (w.heap.size + 3) wr v (ns.take i)) (fun iv _ => ns.length - (intOf iv).toNat)
    case atStart => exact ⟨0, _, by omega, rfl, hC1.out, OwnS.nil _ _⟩
    case round =>
      obtain ⟨i, v, hi, rfl, hI, hO⟩ := hrel
      have aN : wr.cell? ⟨w.heap.size, 2, none⟩ = some (.slice an ns.length cn) := by rw [cell_of_row _ _ 2 _ 27 (0, 0) hI.a0]; rfl
      by_cases hil : i < ns.length
      · have hic : (i : Int) < (ns.length : Int) := by omega
        have hib : i ≤ 140737488355328 := by omega
        obtain ⟨bb, oo, hae, hc⟩ := (hn.keep hI.kp) i hil
        obtain ⟨y, hy⟩ : ∃ y, ns.getD i ByteArray.empty = y := ⟨_, rfl⟩
        rw [hy] at hc
        replace hy : Hid _ := hy
        subst hae
        obtain ⟨va, vc, rfl, hvc, -⟩ := hO.shape
        have hl : (ns.take i).length = i := by rw [List.length_take]; omega
        rw [hl] at hO hI
        have bN : wr.cell? ⟨w.heap.size + 1 + 1, 2, none⟩ = some (.slice va i vc) := by rw [cell_of_row _ _ 2 _ 27 (0, 0) hI.bx]; rfl
        have hKl : (ns.take i).length + 1 ≤ 8796093022208 := by rw [hl]; omega
        have hsz := hI.sz
        have kd : Keep wr (wr.alloc (Obj.cells #[.string y] 9)).drew := ((Keep.refl wr).alloc _).drew
        have hnw : (wr.alloc (Obj.cells #[.string y] 9)).drew.cell? ⟨wr.heap.size, 0, none⟩ = some (.string y) := news1 wr y
        have bN1 : (wr.alloc (Obj.cells #[.string y] 9)).cell? ⟨w.heap.size + 1 + 1, 2, none⟩ = some (.slice va i vc) := ((Keep.refl wr).alloc _).cell bN
        have aN1 : (wr.alloc (Obj.cells #[.string y] 9)).cell? ⟨w.heap.size, 2, none⟩ = some (.slice (some ⟨bb, oo, none⟩) ns.length cn) := ((Keep.refl wr).alloc _).cell aN
        have hOd : OwnS _ _ _ _ := own_keep hO kd
        have hId := hI.keep kd
        replace hI : Hid _ := hI
        replace hO : Hid _ := hO
        replace hId : Hid _ := hId
        replace hOd : Hid _ := hOd
        replace hnw : Hid _ := hnw
        replace hl : Hid _ := hl
        go_wp2_with fail
        go_region_law (refine step_appS (B := w.heap.size + 3) rfl _ _ rfl (ns.take i) y _ hOd.out hId.out.sz hKl wr.heap.size hnw.out rfl rfl ?_; intro v7 w7 hO7 g7; have hI7 := (hId.out.grow (by omega) (by omega) g7 (fun b hb => (own_block hOd.out hb).1)); have z2 := cell_of_row _ _ 2 _ 27 (0, 0) hI7.bx; have q2 := frozen_of_row _ _ 2 _ 27 hI7.bx; simp only [List.getElem?_toArray, List.getElem?_cons_zero, List.getElem?_cons_succ] at z2; obtain ⟨a7, c7, rfl, hc7, -⟩ := hO7.shape; replace hI7 : Hid _ := hI7)
        all_goals
          have hJ := hI7.out.set2 (by omega) (.slice a7 (List.take i ns ++ [y]).length c7)
          have hOf : OwnS (w.heap.size + 3) (w7.setCell ⟨w.heap.size + 1 + 1, 2, none⟩ (.slice a7 (List.take i ns ++ [y]).length c7)) (.slice a7 (List.take i ns ++ [y]).length c7) (List.take i ns ++ [y]) := own_set (j := 2) (u := .slice a7 (List.take i ns ++ [y]).length c7) hO7 (show w.heap.size + 1 + 1 < w.heap.size + 3 by omega)
          rw [show (List.take i ns ++ [y]).length = i + 1 by rw [List.length_append, hl.out]; rfl] at hJ hOf
          rw [← hy.out, take_next ns i hil] at hOf
          go_simp
          go_wp2_with fail
          exact ⟨⟨i + 1, _, by omega, by go_num, hJ, hOf⟩, by simp [intOf]; omega⟩
      · have hic : ¬ (i : Int) < (ns.length : Int) := by omega
        obtain rfl : i = ns.length := by omega
        rw [List.take_length] at hO
        obtain ⟨vn, cv, rfl, hcv, -⟩ := hO.shape
        obtain ⟨wA, hwA⟩ : ∃ wA, wA = wr := ⟨_, rfl⟩
        subst hwA
        replace hI : Hid _ := hI
        replace hO : Hid _ := hO
        go_wp2_with fail
        clear aN
        go_loopw [5] (fun iv wr => ∃ (i : Nat) (v : Value) (K : List (Value × Value × Value × Value)), i ≤ is.length ∧ iv = .int .i64 i ∧ CN w #[.int .u8 (k : Nat), .string t, .slice an ns.length cn, .slice ai is.length ci] (w.heap.size + 1 + 1) (w.heap.size + 3) (.int .u8 (k : Nat)) (.string t) (.slice vn ns.length cv) v wr ∧ OwnS (w.heap.size + 3) wr (.slice vn ns.length cv) ns ∧ CJ is (w.heap.size + 3) i v wr K) (fun iv _ => is.length - (intOf iv).toNat)
        case atStart => exact ⟨0, _, [], by omega, rfl, hI.out, hO.out, rfl, OwnJ.nil _ _, fun j hj => by omega⟩
        case round =>
          clear hI hO
          obtain ⟨i, v, K, hi, rfl, hI, hO, hK⟩ := hrel
          have aN : wr.cell? ⟨w.heap.size, 3, none⟩ = some (.slice ai is.length ci) := by rw [cell_of_row _ _ 3 _ 27 (0, 0) hI.a0]; rfl
          by_cases hil : i < is.length
          · have hic : (i : Int) < (is.length : Int) := by omega
            have hib : i ≤ 140737488355328 := by omega
            obtain ⟨bb, oo, hae, hd0, hd1, hd2, hd3⟩ := hx.out i hil
            have g0 := Keep.cell hI.kp hd0
            have g1 := Keep.cell hI.kp hd1
            have g2 := Keep.cell hI.kp hd2
            have g3 := Keep.cell hI.kp hd3
            have hri := hr.out i hil
            have hzi := hlt.out i hil
            have hfi := f5.out i hil
            subst hae
            clear hd0 hd1 hd2 hd3
            generalize (X i).1 = A0 at *
            generalize (X i).2.1 = A1 at *
            generalize (X i).2.2.1 = A2 at *
            generalize (X i).2.2.2 = A3 at *
            obtain ⟨x1, x2, x3, x4, x5, x6, x7, x8, rfl, rfl, rfl, rfl⟩ := hri.shape
            have hCp := ih.out _ _ wr.drew hzi (hri.keep (hI.kp.trans (Keep.refl wr).drew)) hfi
            obtain ⟨va, vc, rfl, hvc, -⟩ := hK.own.shape d4
            have hl : K.length = i := hK.len
            rw [hl] at hK hI
            have bN : wr.cell? ⟨w.heap.size + 1 + 1, 3, none⟩ = some (.slice va i vc) := by rw [cell_of_row _ _ 3 _ 27 (0, 0) hI.bx]; rfl
            have hKl : K.length + 1 ≤ 1954687338268 := by rw [hl]; omega
            have hsz := hI.sz
            have kd : Keep wr wr.drew := (Keep.refl wr).drew
            have bNd : wr.drew.cell? ⟨w.heap.size + 1 + 1, 3, none⟩ = some (.slice va i vc) := bN
            replace hI : Hid _ := hI
            replace hO : Hid _ := hO
            replace hK : Hid _ := hK
            replace hl : Hid _ := hl
            clear hri hzi hfi
            go_wp2_with fail
            go_region_law (first
              | (refine step_appJ (B := w.heap.size + 3) rfl _ _ rfl K y1 y2 y3 y4 y5 y6 y7 y8 _ (own_keep hK.out.own (kd.trans k6)) (Nat.le_trans hsz (kd.trans k6).le) hKl rfl rfl ?_; intro v7 w7 hO7 g7 hv7; have hI7 := ((hI.out.keep (kd.trans k6)).keep ((Keep.refl w6).alloc _)).grow (by omega) (by omega) g7 (fun b hb => (own_block hK.out.own hb).1); have z2 := cell_of_row _ _ 3 _ 27 (0, 0) hI7.bx; have q2 := frozen_of_row _ _ 3 _ 27 hI7.bx; simp only [List.getElem?_toArray, List.getElem?_cons_zero, List.getElem?_cons_succ] at z2; obtain ⟨a7, c7, rfl, hc7, -⟩ := hO7.shape d4; replace hI7 : Hid _ := hI7)
              | (go_simp; go_wp2_with (go_at_call 12; refine hCp.mono ?_; rintro e w6 ⟨v6, rfl, hC6, k6⟩; obtain ⟨y1, y2, y3, y4, y5, y6, y7, y8, rfl⟩ := hC6.rdv.form; have c36 := k6.cell bNd; have c37 := fun ob => (k6.alloc ob).cell bNd)))
            all_goals
              have hJ := hI7.out.set3 (by omega) (.slice a7 (K ++ [jc y1 y2 y3 y4 y5 y6 y7 y8]).length c7)
              have hNf := names_step (B := w.heap.size + 1 + 1) (v' := .slice a7 (K ++ [jc y1 y2 y3 y4 y5 y6 y7 y8]).length c7) hK.out hO.out (by omega) (kd.trans k6) g7
              have hKf := hK.out.step (y := jc y1 y2 y3 y4 y5 y6 y7 y8) (B := w.heap.size + 1 + 1) (by omega) hsz (kd.trans k6) hC6 hO7 g7 hv7
              rw [show (K ++ [jc y1 y2 y3 y4 y5 y6 y7 y8]).length = K.length + 1 by rw [List.length_append]; rfl] at hJ hNf hKf
              clear hCp hC6 hO7 g7 hv7
              go_simp
              go_wp2_with fail
              exact ⟨⟨i + 1, _, _, by omega, by go_num, hJ, hNf, hKf⟩, by simp [intOf]; omega⟩
          · have hic : ¬ (i : Int) < (is.length : Int) := by omega
            obtain rfl : i = is.length := by omega
            obtain ⟨vi, cj, rfl, hcj, -⟩ := hK.own.shape d4
            rw [hK.len] at hK hI
            have hbx := hI.bx
            have ha1 := hI.a1
            have g0 := cell_of_row _ _ 0 _ 27 (0, 0) hbx
            have g1 := cell_of_row _ _ 1 _ 27 (0, 0) hbx
            have g2 := cell_of_row _ _ 2 _ 27 (0, 0) hbx
            have g3 := cell_of_row _ _ 3 _ 27 (0, 0) hbx
            have m0 := cell_of_row _ _ 0 _ 27 (0, 0) ha1
            have m1 := cell_of_row _ _ 1 _ 27 (0, 0) ha1
            have m2 := cell_of_row _ _ 2 _ 27 (0, 0) ha1
            have m3 := cell_of_row _ _ 3 _ 27 (0, 0) ha1
            have n0 := frozen_of_row _ _ 0 _ 27 ha1
            have n1 := frozen_of_row _ _ 1 _ 27 ha1
            have n2 := frozen_of_row _ _ 2 _ 27 ha1
            have n3 := frozen_of_row _ _ 3 _ 27 ha1
            simp only [List.getElem?_toArray, List.getElem?_cons_zero, List.getElem?_cons_succ] at g0 g1 g2 g3 m0 m1 m2 m3
            have hD := copy_done (t := t) hk ln li hO hK
            obtain ⟨F1, F2⟩ := hI.box3 (.int .u8 (k : Nat)) (.string t) (.slice vn ns.length cv) (.slice vi is.length cj) (by omega) (by omega)
            replace F1 : Hid _ := F1
            replace F2 : Hid _ := F2
            replace hD : Hid _ := hD
            clear hbx ha1 hI hO hK
            go_wp2_with fail
            try simp only [Exit.inBlock, Exit.then]
            refine bodyPost_ret (results_cell_row rfl _ _ (w.heap.size + 1) 27 _ (0, 0) _ rfl F1.out Tryd.underlying27 rfl (by kernel_rfl)) rfl ?_
            exact ⟨_, rfl, (hD.out.box (w.heap.size + 1) (fun b hb => by omega) _ _ _ _).same (fun _ _ => rfl) (fun b hb => by omega), F2.out⟩
end Go.Proofs.YteonapeoeckhfaaDoor
