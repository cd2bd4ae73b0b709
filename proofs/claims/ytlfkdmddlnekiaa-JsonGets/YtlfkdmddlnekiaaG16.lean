import Derived.Test.YtlfkdmddlnekiaaG15
set_option linter.unusedVariables false
set_option linter.unusedSimpArgs false
namespace Go.Proofs.Ytlfkdmddlnekiaa
open Go.RowKit
theorem boxes2n (w : World) (u v : Array Value) (t1 t2 : Nat) : ∃ w4, (w.alloc (Obj.cells u t1)).alloc (Obj.cells v t2) = w4 ∧ Keep w w4 ∧ w4.heap.size = w.heap.size + 2 ∧
    w4.heap[w.heap.size]? = some (Obj.cells u t1 (0, 0)) ∧ w4.heap[w.heap.size + 1]? = some (Obj.cells v t2 (0, 0)) := by
  refine ⟨_, rfl, ((Keep.refl w).alloc _).alloc _, by simp, ?_, ?_⟩
  · exact (Below.heap_alloc _ _ _ (by simp)).trans (heap_alloc_new w _)
  · have := heap_alloc_new (w.alloc (Obj.cells u t1)) (Obj.cells v t2)
    rw [World.size_alloc] at this
    exact this
theorem CN.ofA {w w1 w2 : World} {A0 : Array Value} {kv tv xv yv : Value} (k1 : Keep w w1) (s1 : w1.heap.size = w.heap.size + 2) (r0 : w1.heap[w.heap.size]? = some (Obj.cells A0 26 (0, 0))) (r1 : w1.heap[w.heap.size + 1]? = some (Obj.cells #[.int .u8 0, .string { data := #[] }, .slice none 0 0, .slice none 0 0] 26 (0, 0))) (k2 : Keep w1 w2) :
    w.heap.size + 1 < w2.heap.size ∧ w2.heap.size < w2.heap.size + 1 ∧ CN w A0 w2.heap.size (w2.heap.size + 1) kv tv xv yv (w2.alloc (Obj.cells #[kv, tv, xv, yv] 26)) := by
  have h2 := k2.le
  refine ⟨by omega, by omega, (k1.trans k2).alloc _, ?_, ?_, heap_alloc_new w2 _, by rw [World.size_alloc]; omega⟩
  · exact (((Keep.refl w2).alloc _).block _ (by omega)).trans ((k2.block _ (by omega)).trans r0)
  · exact (((Keep.refl w2).alloc _).block _ (by omega)).trans ((k2.block _ (by omega)).trans r1)
theorem CN.ofB {w w1 w2 : World} {A0 : Array Value} {kv tv xv yv x0 x1 x2 x3 : Value} (k1 : Keep w w1) (s1 : w1.heap.size = w.heap.size + 2) (r0 : w1.heap[w.heap.size]? = some (Obj.cells A0 26 (0, 0))) (r1 : w1.heap[w.heap.size + 1]? = some (Obj.cells #[.int .u8 0, .string { data := #[] }, .slice none 0 0, .slice none 0 0] 26 (0, 0))) (k2 : Keep (w1.alloc (Obj.cells #[x0, x1, x2, x3] 26)) w2) :
    w.heap.size + 1 < w1.heap.size ∧ w1.heap.size < w1.heap.size + 1 ∧ CN w A0 w1.heap.size (w1.heap.size + 1) kv tv xv yv ((((w2.setCell ⟨w1.heap.size, 0, none⟩ kv).setCell ⟨w1.heap.size, 1, none⟩ tv).setCell ⟨w1.heap.size, 2, none⟩ xv).setCell ⟨w1.heap.size, 3, none⟩ yv) := by
  have h2 := k2.le
  rw [World.size_alloc] at h2
  have hb := (k2.block _ (by rw [World.size_alloc]; omega)).trans (heap_alloc_new w1 _)
  have k12 : Keep w1 w2 := ((Keep.refl w1).alloc _).trans k2
  have hl : w.heap.size ≤ w1.heap.size := by omega
  have ho : ∀ b, b ≠ w1.heap.size → ((((w2.setCell ⟨w1.heap.size, 0, none⟩ kv).setCell ⟨w1.heap.size, 1, none⟩ tv).setCell ⟨w1.heap.size, 2, none⟩ xv).setCell ⟨w1.heap.size, 3, none⟩ yv).heap[b]? = w2.heap[b]? := fun b hb => by
    rw [neq_set _ _ _ _ b hb, neq_set _ _ _ _ b hb, neq_set _ _ _ _ b hb, neq_set _ _ _ _ b hb]
  refine ⟨by omega, by omega, ((((k1.trans k12).setCell (p := ⟨w1.heap.size, 0, none⟩) hl _).setCell (p := ⟨w1.heap.size, 1, none⟩) hl _).setCell (p := ⟨w1.heap.size, 2, none⟩) hl _).setCell (p := ⟨w1.heap.size, 3, none⟩) hl _, ?_, ?_, heap4 w2 _ _ _ _ _ hb, by simp only [World.size_setCell]; omega⟩
  · exact (ho _ (by omega)).trans ((k12.block _ (by omega)).trans r0)
  · exact (ho _ (by omega)).trans ((k12.block _ (by omega)).trans r1)
theorem own_mono {H H' e s n : Nat} {w : World} {v : Value} {l : List Value} (h : w.ownsRow H e s v n l) (hB : H' ≤ H) : w.ownsRow H' e s v n l := by
  refine ⟨h.1, ?_⟩
  rcases h.2 with h2 | ⟨g, cap, cur, hv, hg, r⟩
  · exact .inl h2
  · exact .inr ⟨g, cap, cur, hv, Nat.le_trans hB hg, r⟩
theorem own_other {H e e2 s s2 n m : Nat} {W w7 : World} {v u : Value} {l k : List Value} (hne : e ≠ e2) (h1 : W.ownsRow H e s v n l) (h2 : W.ownsRow H e2 s2 u m k) (g7 : W.grownBy w7 v.ownBlock) : w7.ownsRow H e2 s2 u m k := by
  refine own_same h2 ?_
  intro b hb
  obtain ⟨-, cur, hc⟩ := own_block h2 hb
  refine g7.block b (Array.getElem?_eq_some_iff.1 hc).1 ?_
  intro e
  obtain ⟨-, cur2, hc2⟩ := own_block h1 e.symm
  rw [hc] at hc2
  simp only [Option.some.injEq, Obj.cells.injEq] at hc2
  exact hne hc2.2.1.symm
set_option maxRecDepth 100000 in
set_option maxHeartbeats 2000000 in
theorem Copy_in : ∀ (n : Nat) (j : J) (v : Value) (w : World), SizeOf.sizeOf j ≤ n → RdV w v j → Fit j →
    Calls Try.prog 9 #[v] w fun e w' => ∃ v', e = .returned v' ∧ RdW w' (fun b => w.heap.size ≤ b) v' j ∧ Keep w w' := by
  intro n
  induction n with
  | zero => intro j v w hs; cases j; simp at hs
  | succ n ih =>
    intro j v w hs hv hF
    cases hv with
    | mk k t ns is an cn ai ci X hk hn ln li hx hr =>
    cases hF with
    | mk _ _ _ _ f1 f2 f3 f4 f5 =>
    have hlt : ∀ i, i < is.length → SizeOf.sizeOf (is.getD i j0) ≤ n := fun i hi => by
      have := J.is_lt (a := .mk k t ns is) (i := i) hi
      simp only [J.is] at this
      omega
    obtain ⟨w1, hw1, k1, s1, r0, r1⟩ := boxes2n w #[.int .u8 (k : Nat), .string t, .slice an ns.length cn, .slice ai is.length ci] #[.int .u8 0, .string { data := #[] }, .slice none 0 0, .slice none 0 0] 26 26
    have d0 := cell_of_row _ _ 0 _ 26 (0, 0) r0
    have d1 := cell_of_row _ _ 1 _ 26 (0, 0) r0
    simp only [List.getElem?_toArray, List.getElem?_cons_zero, List.getElem?_cons_succ] at d0 d1
    have hCl := fun (wx : World) => Clone_any t wx f1
    replace ih : Hid _ := ih
    replace hlt : Hid _ := hlt
    replace hx : Hid _ := hx
    replace hr : Hid _ := hr
    replace hw1 : Hid _ := hw1
    replace f5 : Hid _ := f5
    replace f3 : Hid _ := f3
    replace r0 : Hid _ := r0
    replace r1 : Hid _ := r1
    replace s1 : Hid _ := s1
    have hb : (w1.alloc (Obj.cells #[.int .u8 0, .string { data := #[] }, .slice none 0 0, .slice none 0 0] 26)).drew.heap[w1.heap.size]? = some (Obj.cells #[.int .u8 0, .string { data := #[] }, .slice none 0 0, .slice none 0 0] 26 (0, 0)) := heap_alloc_new w1 _
    replace hb : Hid _ := hb
    have d0a := ((Keep.refl w1).alloc (Obj.cells #[.int .u8 0, .string { data := #[] }, .slice none 0 0, .slice none 0 0] 26)).cell d0
    have d1a := ((Keep.refl w1).alloc (Obj.cells #[.int .u8 0, .string { data := #[] }, .slice none 0 0, .slice none 0 0] 26)).cell d1
    have d0b := ((Keep.refl w1).alloc (Obj.cells #[.int .u8 0, .string { data := #[] }, .slice none 0 0, .slice none 0 0] 26)).drew.cell d0
    go_enter Try.func9, Try.ntmps9
    go_upto_region 1 with fail
    rw [hw1.out]
    go_cut [3] from 8 to 13 (fun s3 wx => ∃ B H, s3 = .pointer (some ⟨B, 0, none⟩) ∧ w.heap.size + 1 < B ∧ B < H ∧ CN w #[.int .u8 (k : Nat), .string t, .slice an ns.length cn, .slice ai is.length ci] B H (.int .u8 (k : Nat)) (.string t) (.slice none 0 0) (.slice none 0 0) wx)
    case first =>
      go_region_with (go_at_call 13; refine (hCl _).mono ?_; rintro e w2 ⟨rfl, k2⟩; have d02 := k2.cell (show World.cell? _ ⟨w.heap.size, 0, none⟩ = some (.int .u8 (k : Nat)) from by first | exact d0 | exact d0b); have d03 := fun ob => (k2.alloc ob).cell (show World.cell? _ ⟨w.heap.size, 0, none⟩ = some (.int .u8 (k : Nat)) from by first | exact d0 | exact d0b); try (have hb2 := (k2.block _ (Array.getElem?_eq_some_iff.1 hb.out).1).trans hb.out; have e0 := cell_of_row _ _ 0 _ 26 (0, 0) hb2; have e1 := cell_of_row _ _ 1 _ 26 (0, 0) hb2; have e2 := cell_of_row _ _ 2 _ 26 (0, 0) hb2; have e3 := cell_of_row _ _ 3 _ 26 (0, 0) hb2; have q0 := frozen_of_row _ _ 0 _ 26 hb2; have q1 := frozen_of_row _ _ 1 _ 26 hb2; have q2 := frozen_of_row _ _ 2 _ 26 hb2; have q3 := frozen_of_row _ _ 3 _ 26 hb2; simp only [List.getElem?_toArray, List.getElem?_cons_zero, List.getElem?_cons_succ] at e0 e1 e2 e3; replace hb2 : Hid _ := hb2))
      all_goals
        go_wp2_with fail
        go_meet
        first
          | with_reducible exact ⟨_, _, rfl, CN.ofA k1 s1.out r0.out r1.out ((Keep.refl w1).drew.trans k2)⟩
          | with_reducible exact ⟨_, _, rfl, CN.ofB k1 s1.out r0.out r1.out ((Keep.refl _).drew.trans k2)⟩
    case rest =>
      obtain ⟨B, H, rfl, hB, hH, hC⟩ := hcut
      clear hw1 r0 r1 s1 d0 d1 d0a d1a d0b hb hCl
      have hG1 := GrowS_nil ns.length wc f2
      have a2 := cell_of_row _ _ 2 _ 26 (0, 0) hC.a0
      have b2 := cell_of_row _ _ 2 _ 26 (0, 0) hC.bx
      simp only [List.getElem?_toArray, List.getElem?_cons_zero, List.getElem?_cons_succ] at a2 b2
      replace hC : Hid _ := hC
      go_wp2_with fail
      refine hG1.mono ?_
      rintro e w2 ⟨p1, p2, rfl, hO2, k2⟩
      have hC2 := hC.out.keep k2
      have z2 := cell_of_row _ _ 2 _ 26 (0, 0) hC2.bx
      have q2 := frozen_of_row _ _ 2 _ 26 hC2.bx
      simp only [List.getElem?_toArray, List.getElem?_cons_zero, List.getElem?_cons_succ] at z2
      replace hC2 := hC2.set2 hB (.slice p1 0 p2)
      replace hO2 : OwnS H (w2.setCell ⟨B, 2, none⟩ (.slice p1 0 p2)) (.slice p1 0 p2) [] := own_set (hO2.mono hC.out.sz) hH
      have a3 := cell_of_row _ _ 3 _ 26 (0, 0) hC2.a0
      have b3 := cell_of_row _ _ 3 _ 26 (0, 0) hC2.bx
      simp only [List.getElem?_toArray, List.getElem?_cons_zero, List.getElem?_cons_succ] at a3 b3
      have hG2 := GrowJ_nil is.length (w2.setCell ⟨B, 2, none⟩ (.slice p1 0 p2)) f4
      replace hC2 : Hid _ := hC2
      replace hO2 : Hid _ := hO2
      clear hG1 a2 b2
      go_wp2_with fail
      refine hG2.mono ?_
      rintro e w3 ⟨p3, p4, rfl, hO3, k3⟩
      have hC3 := hC2.out.keep k3
      have z3 := cell_of_row _ _ 3 _ 26 (0, 0) hC3.bx
      have q3 := frozen_of_row _ _ 3 _ 26 hC3.bx
      simp only [List.getElem?_toArray, List.getElem?_cons_zero, List.getElem?_cons_succ] at z3
      replace hC3 := hC3.set3 hB (.slice p3 0 p4)
      have hsz2 := hC2.out.sz
      replace hO2 : OwnS H (w3.setCell ⟨B, 3, none⟩ (.slice p3 0 p4)) (.slice p1 0 p2) [] := own_set (own_keep hO2.out k3) hH
      replace hO3 : OwnJ H (w3.setCell ⟨B, 3, none⟩ (.slice p3 0 p4)) (.slice p3 0 p4) [] := own_set (own_mono hO3 hsz2) hH
      have a2 := cell_of_row _ _ 2 _ 26 (0, 0) hC3.a0
      simp only [List.getElem?_toArray, List.getElem?_cons_zero, List.getElem?_cons_succ] at a2
      clear hG2 hC2 hC hsz2 z2 q2 a3 b3
      replace hC3 : Hid _ := hC3
      replace hO2 : Hid _ := hO2
      replace hO3 : Hid _ := hO3
      go_wp2_with fail
      generalize w3.setCell ⟨B, 3, none⟩ (.slice p3 0 p4) = wS at *
      clear a2
      go_loopw [31] (fun iv wr => ∃ (i : Nat) (v : Value), i ≤ ns.length ∧ iv = .int .i64 i ∧ CN w #[.int .u8 (k : Nat), .string t, .slice an ns.length cn, .slice ai is.length ci] B H (.int .u8 (k : Nat)) (.string t) v (.slice p3 0 p4) wr ∧ OwnS H wr v (ns.take i) ∧ OwnJ H wr (.slice p3 0 p4) []) (fun iv _ => ns.length - (intOf iv).toNat)
      case atStart => exact ⟨0, _, by omega, rfl, hC3.out, hO2.out, hO3.out⟩
      case round =>
        clear hC3 hO2 hO3
        obtain ⟨i, v, hi, rfl, hI, hO, hE⟩ := hrel
        by_cases hil : i < ns.length
        · have hic : (i : Int) < (ns.length : Int) := by omega
          have hib : i ≤ 140737488355328 := by omega
          obtain ⟨bb, oo, hae, hc⟩ := (hn.keep hI.kp) i hil
          obtain ⟨y, hy⟩ : ∃ y, ns.getD i ByteArray.empty = y := ⟨_, rfl⟩
          have hfy := f3.out i hil
          rw [hy] at hc hfy
          replace hy : Hid _ := hy
          subst hae
          obtain ⟨va, vc, rfl, hvc, -⟩ := hO.shape
          have hl : (ns.take i).length = i := by rw [List.length_take]; omega
          rw [hl] at hO hI
          have hKl : (ns.take i).length + 1 ≤ 8796093022208 := by rw [hl]; omega
          have kd : Keep wr wr.drew := (Keep.refl wr).drew
          have bNd : wr.drew.cell? ⟨B, 2, none⟩ = some (.slice va i vc) := by
            have : wr.cell? ⟨B, 2, none⟩ = some (.slice va i vc) := by rw [cell_of_row _ _ 2 _ 26 (0, 0) hI.bx]; rfl
            exact this
          have bN : wr.cell? ⟨B, 2, none⟩ = some (.slice va i vc) := bNd
          have hCl := Clone_any y wr.drew hfy
          have hsz := hI.sz
          replace hI : Hid _ := hI
          replace hO : Hid _ := hO
          replace hE : Hid _ := hE
          replace hl : Hid _ := hl
          go_wp2_with fail
          go_region_law (first
            | (refine step_appS (B := H) (W := w6.alloc (Obj.cells #[.string y] 9)) rfl _ _ rfl (ns.take i) y _ (own_keep hO.out ((kd.trans k6).alloc _)) (Nat.le_trans hsz ((kd.trans k6).alloc _).le) hKl w6.heap.size (news1 w6 y) rfl rfl ?_; intro v7 w7 hO7 g7; have hI7 := (hI.out.keep ((kd.trans k6).alloc _)).grow hB hH g7 (fun b hb => (own_block hO.out hb).1); have z2 := cell_of_row _ _ 2 _ 26 (0, 0) hI7.bx; have q2 := frozen_of_row _ _ 2 _ 26 hI7.bx; simp only [List.getElem?_toArray, List.getElem?_cons_zero, List.getElem?_cons_succ] at z2; obtain ⟨a7, c7, rfl, hc7, -⟩ := hO7.shape; replace hI7 : Hid _ := hI7)
            | (go_simp; go_wp2_with (go_at_call 13; refine hCl.mono ?_; rintro e w6 ⟨rfl, k6⟩; have c26 := k6.cell bNd; have c27 := fun ob => (k6.alloc ob).cell bNd)))
          all_goals
            have hJ := hI7.out.set2 hB (.slice a7 (List.take i ns ++ [y]).length c7)
            have hOf : OwnS H (w7.setCell ⟨B, 2, none⟩ (.slice a7 (List.take i ns ++ [y]).length c7)) (.slice a7 (List.take i ns ++ [y]).length c7) (List.take i ns ++ [y]) := own_set hO7 hH
            have hEf : OwnJ H (w7.setCell ⟨B, 2, none⟩ (.slice a7 (List.take i ns ++ [y]).length c7)) (.slice p3 0 p4) [] := own_set (own_other (by decide) (own_keep hO.out ((kd.trans k6).alloc _)) (own_keep hE.out ((kd.trans k6).alloc _)) g7) hH
            rw [show (List.take i ns ++ [y]).length = i + 1 by rw [List.length_append, hl.out]; rfl] at hJ hOf hEf
            rw [← hy.out, take_next ns i hil] at hOf
            clear hCl g7 hO7
            go_simp
            go_wp2_with fail
            exact ⟨⟨i + 1, _, by omega, by go_num, hJ, hOf, hEf⟩, by simp [intOf]; omega⟩
        · have hic : ¬ (i : Int) < (ns.length : Int) := by omega
          obtain rfl : i = ns.length := by omega
          rw [List.take_length] at hO
          obtain ⟨vn, cv, rfl, hcv, -⟩ := hO.shape
          obtain ⟨wA, hwA⟩ : ∃ wA, wA = wr := ⟨_, rfl⟩
          subst hwA
          have a3 := cell_of_row _ _ 3 _ 26 (0, 0) hI.a0
          simp only [List.getElem?_toArray, List.getElem?_cons_zero, List.getElem?_cons_succ] at a3
          replace hI : Hid _ := hI
          replace hO : Hid _ := hO
          replace hE : Hid _ := hE
          go_wp2_with fail
          clear a3
          go_loopw [46] (fun iv wr => ∃ (i : Nat) (v : Value) (K : List (Value × Value × Value × Value)), i ≤ is.length ∧ iv = .int .i64 i ∧ CN w #[.int .u8 (k : Nat), .string t, .slice an ns.length cn, .slice ai is.length ci] B H (.int .u8 (k : Nat)) (.string t) (.slice vn ns.length cv) v wr ∧ OwnS H wr (.slice vn ns.length cv) ns ∧ CJ is H i v wr K) (fun iv _ => is.length - (intOf iv).toNat)
          case atStart => exact ⟨0, _, [], by omega, rfl, hI.out, hO.out, rfl, hE.out, fun j hj => by omega⟩
          case round =>
            clear hI hO hE
            obtain ⟨i, v, K, hi, rfl, hI, hO, hK⟩ := hrel
            by_cases hil : i < is.length
            · have hic : (i : Int) < (is.length : Int) := by omega
              have hib : i ≤ 140737488355328 := by omega
              obtain ⟨bb, oo, hae, hd0, hd1, hd2, hd3⟩ := hx.out i hil
              have g0 := Keep.cell hI.kp hd0
              have g1 := Keep.cell hI.kp hd1
              have g2 := Keep.cell hI.kp hd2
              have g3 := Keep.cell hI.kp hd3
              have hri := hr.out i hil
              have hzi := hlt.out i hil
              have hfi := f5.out i hil
              subst hae
              clear hd0 hd1 hd2 hd3
              generalize (X i).1 = A0 at *
              generalize (X i).2.1 = A1 at *
              generalize (X i).2.2.1 = A2 at *
              generalize (X i).2.2.2 = A3 at *
              obtain ⟨x1, x2, x3, x4, x5, x6, x7, x8, rfl, rfl, rfl, rfl⟩ := hri.shape
              have kd : Keep wr (wr.alloc (Obj.cells #[.int .u8 (x1 : Nat), .string x2, .slice x3 x4 x5, .slice x6 x7 x8] 26)).drew := ((Keep.refl wr).alloc _).drew
              have hCp := ih.out _ _ (wr.alloc (Obj.cells #[.int .u8 (x1 : Nat), .string x2, .slice x3 x4 x5, .slice x6 x7 x8] 26)).drew hzi (hri.keep (hI.kp.trans kd)) hfi
              have bx1 : (wr.alloc (Obj.cells #[.int .u8 (x1 : Nat), .string x2, .slice x3 x4 x5, .slice x6 x7 x8] 26)).drew.heap[wr.heap.size]? = some (Obj.cells #[.int .u8 (x1 : Nat), .string x2, .slice x3 x4 x5, .slice x6 x7 x8] 26 (0, 0)) := heap_alloc_new wr _
              have y0 := cell_of_row _ _ 0 _ 26 (0, 0) bx1
              have y1 := cell_of_row _ _ 1 _ 26 (0, 0) bx1
              have y2 := cell_of_row _ _ 2 _ 26 (0, 0) bx1
              have y3 := cell_of_row _ _ 3 _ 26 (0, 0) bx1
              simp only [List.getElem?_toArray, List.getElem?_cons_zero, List.getElem?_cons_succ] at y0 y1 y2 y3
              obtain ⟨va, vc, rfl, hvc, -⟩ := hK.own.shape d4
              have hl : K.length = i := hK.len
              rw [hl] at hK hI
              have bN : wr.cell? ⟨B, 3, none⟩ = some (.slice va i vc) := by rw [cell_of_row _ _ 3 _ 26 (0, 0) hI.bx]; rfl
              have bNd := kd.cell bN
              have bNa : (wr.alloc (Obj.cells #[.int .u8 (x1 : Nat), .string x2, .slice x3 x4 x5, .slice x6 x7 x8] 26)).cell? ⟨B, 3, none⟩ = some (.slice va i vc) := bNd
              have hKl : K.length + 1 ≤ 1954687338268 := by rw [hl]; omega
              have hsz := hI.sz
              replace hI : Hid _ := hI
              replace hO : Hid _ := hO
              replace hK : Hid _ := hK
              replace hl : Hid _ := hl
              replace bx1 : Hid _ := bx1
              clear hri hzi hfi
              go_wp2_with fail
              go_region_law (first
                | (refine step_appJ (B := H) rfl _ _ rfl K m1 m2 m3 m4 m5 m6 m7 m8 _ (own_keep hK.out.own (kd.trans k6)) (Nat.le_trans hsz (kd.trans k6).le) hKl rfl rfl ?_; intro v7 w7 hO7 g7 hv7; have hI7 := ((hI.out.keep (kd.trans k6)).keep ((Keep.refl w6).alloc _)).grow hB hH g7 (fun b hb => (own_block hK.out.own hb).1); have z2 := cell_of_row _ _ 3 _ 26 (0, 0) hI7.bx; have q2 := frozen_of_row _ _ 3 _ 26 hI7.bx; simp only [List.getElem?_toArray, List.getElem?_cons_zero, List.getElem?_cons_succ] at z2; obtain ⟨a7, c7, rfl, hc7, -⟩ := hO7.shape d4; replace hI7 : Hid _ := hI7)
                | (go_simp; go_wp2_with (go_at_call 9; refine hCp.mono ?_; rintro e w6 ⟨v6, rfl, hC6, k6⟩; obtain ⟨m1, m2, m3, m4, m5, m6, m7, m8, rfl⟩ := hC6.rdv.form; have c36 := k6.cell bNd; have c37 := fun ob => (k6.alloc ob).cell bNd)))
              all_goals
                have hJ := hI7.out.set3 hB (.slice a7 (K ++ [jc m1 m2 m3 m4 m5 m6 m7 m8]).length c7)
                have hNf := names_step (B := B) (v' := .slice a7 (K ++ [jc m1 m2 m3 m4 m5 m6 m7 m8]).length c7) hK.out hO.out hH (kd.trans k6) g7
                have hKf := hK.out.step (y := jc m1 m2 m3 m4 m5 m6 m7 m8) (B := B) hH hsz (kd.trans k6) (hC6.same (fun _ _ => rfl) (fun b hb => Nat.le_trans kd.le hb)) hO7 g7 hv7
                rw [show (K ++ [jc m1 m2 m3 m4 m5 m6 m7 m8]).length = K.length + 1 by rw [List.length_append]; rfl] at hJ hNf hKf
                clear hCp hC6 hO7 g7 hv7
                go_simp
                go_wp2_with fail
                exact ⟨⟨i + 1, _, _, by omega, by go_num, hJ, hNf, hKf⟩, by simp [intOf]; omega⟩
            · have hic : ¬ (i : Int) < (is.length : Int) := by omega
              obtain rfl : i = is.length := by omega
              obtain ⟨vi, cj, rfl, hcj, -⟩ := hK.own.shape d4
              rw [hK.len] at hK hI
              have hbx := hI.bx
              have ha1 := hI.a1
              have g0 := cell_of_row _ _ 0 _ 26 (0, 0) hbx
              have g1 := cell_of_row _ _ 1 _ 26 (0, 0) hbx
              have g2 := cell_of_row _ _ 2 _ 26 (0, 0) hbx
              have g3 := cell_of_row _ _ 3 _ 26 (0, 0) hbx
              have m0 := cell_of_row _ _ 0 _ 26 (0, 0) ha1
              have m1 := cell_of_row _ _ 1 _ 26 (0, 0) ha1
              have m2 := cell_of_row _ _ 2 _ 26 (0, 0) ha1
              have m3 := cell_of_row _ _ 3 _ 26 (0, 0) ha1
              have n0 := frozen_of_row _ _ 0 _ 26 ha1
              have n1 := frozen_of_row _ _ 1 _ 26 ha1
              have n2 := frozen_of_row _ _ 2 _ 26 ha1
              have n3 := frozen_of_row _ _ 3 _ 26 ha1
              simp only [List.getElem?_toArray, List.getElem?_cons_zero, List.getElem?_cons_succ] at g0 g1 g2 g3 m0 m1 m2 m3
              have hD := copy_done (t := t) hk ln li hO hK
              obtain ⟨F1, F2⟩ := hI.box3 (.int .u8 (k : Nat)) (.string t) (.slice vn ns.length cv) (.slice vi is.length cj) hB hH
              replace F1 : Hid _ := F1
              replace F2 : Hid _ := F2
              replace hD : Hid _ := hD
              clear hbx ha1 hI hO hK
              go_wp2_with fail
              try simp only [Exit.inBlock, Exit.then]
              refine bodyPost_ret (results_cell_row rfl _ _ (w.heap.size + 1) 26 _ (0, 0) _ rfl F1.out Try.underlying26 rfl (by kernel_rfl)) rfl ?_
              exact ⟨_, rfl, (hD.out.box (w.heap.size + 1) (fun b hb => by omega) _ _ _ _).same (fun _ _ => rfl) (fun b hb => by omega), F2.out⟩
end Go.Proofs.Ytlfkdmddlnekiaa
