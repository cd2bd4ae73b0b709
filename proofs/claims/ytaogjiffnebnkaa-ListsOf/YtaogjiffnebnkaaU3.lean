import Derived.Test.YtaogjiffnebnkaaU4
import Derived.Deep.QuietTactic
import Derived.BigQuiet
set_option linter.unusedVariables false
set_option linter.unusedSimpArgs false
namespace Go.Proofs.Ytaogjiffnebnkaa
open Go.RowKit Go.Shelf Go.Maps
attribute [local go_sem] run_store_float
theorem OwnC.at {B : Nat} {w : World} {g n cap : Nat} {K : List CI} (h : OwnC B w (.slice (some ⟨g, 0, none⟩) n cap) K) {j : Nat} (hj : j < K.length) : Cu.At w g j (K.getD j Cu.d0) := by
  rcases h.2 with ⟨h1, _⟩ | ⟨g', cap', cur, hv, hg, hh, h1, h2, h3, h4⟩
  · cases h1
  · simp only [Value.slice.injEq, Option.some.injEq, Addr.mk.injEq, and_true] at hv
    obtain ⟨rfl, rfl, rfl⟩ := hv
    have e : ∀ i, i < 5 → cur[j * 5 + i]? = (UC [K.getD j Cu.d0])[i]? := by
      intro i hi
      rw [← UC_get K j i hj hi, ← h4, List.getElem?_take, if_pos (by omega), Array.getElem?_toList]
    have c : ∀ i u, i < 5 → (UC [K.getD j Cu.d0])[i]? = some u → w.cell? ⟨g, j * 5 + i, none⟩ = some u := fun i u hi hu => by rw [cell_of_row w g _ cur 57 (0, 0) hh, e i hi, hu]
    exact ⟨c 0 _ (by omega) rfl, c 1 _ (by omega) rfl, c 2 _ (by omega) rfl, c 3 _ (by omega) rfl, c 4 _ (by omega) rfl, frozen_of_row w g _ cur 57 hh, frozen_of_row w g _ cur 57 hh, frozen_of_row w g _ cur 57 hh, frozen_of_row w g _ cur 57 hh, frozen_of_row w g _ cur 57 hh⟩
set_option maxRecDepth 100000 in
set_option maxHeartbeats 1200000 in
theorem put_any (B : Nat) (w : World) (v : Value) (K : List CI) (x : CI) (hown : OwnC B w v K) (hB : B ≤ w.heap.size) (hs : srt Cu.kI K) (hF : ∀ y ∈ K ++ [x], y.1.th < 18446744073709551616 ∧ ¬ isNaN y.1.th) (hl : K.length + 1 ≤ 1099511627776) :
    Calls Try.prog 37 #[v, Cu.vI x] w fun e w' => ∃ v' K', e = .returned v' ∧ OwnC B w' v' K' ∧ srt Cu.kI K' ∧ eqv Cu.kI K' (K ++ [x]) ∧ w.grownBy w' v.ownBlock ∧ (v'.ownBlock = v.ownBlock ∨ ∃ b, v'.ownBlock = some b ∧ w.heap.size ≤ b) := by
  obtain ⟨w1, hw1⟩ : ∃ w1, w.alloc (Obj.cells #[Value.float .f64 x.1.th, .slice x.2.1 x.1.cs.length x.2.2, .int .i64 x.1.tr, .int .i64 x.1.fr, .int .i64 x.1.to] 57) = w1 := ⟨_, rfl⟩
  have k1 : Keep w w1 := by rw [← hw1]; exact (Keep.refl w).alloc _
  have r1 : w1.heap[w.heap.size]? = some (Obj.cells #[Value.float .f64 x.1.th, .slice x.2.1 x.1.cs.length x.2.2, .int .i64 x.1.tr, .int .i64 x.1.fr, .int .i64 x.1.to] 57 (0, 0)) := by rw [← hw1]; exact heap_alloc_new w _
  have b0 := cell_of_row w1 _ 0 _ 57 (0, 0) r1
  have b1 := cell_of_row w1 _ 1 _ 57 (0, 0) r1
  have b2 := cell_of_row w1 _ 2 _ 57 (0, 0) r1
  have b3 := cell_of_row w1 _ 3 _ 57 (0, 0) r1
  have b4 := cell_of_row w1 _ 4 _ 57 (0, 0) r1
  simp at b0 b1 b2 b3 b4
  rw [← hw1] at b0 b1 b2 b3 b4
  replace hw1 : Hid _ := hw1
  replace r1 : Hid _ := r1
  have s1 : w1.heap.size = w.heap.size + 1 := by rw [← hw1.out]; simp
  have hnw := newsC w1 _ s1 x.1 x.2.1 x.2.2
  replace s1 : Hid _ := s1
  have kA : Keep w1 (w1.alloc (Obj.cells #[Value.float .f64 x.1.th, .slice x.2.1 x.1.cs.length x.2.2, .int .i64 x.1.tr, .int .i64 x.1.fr, .int .i64 x.1.to] 57)) := (Keep.refl w1).alloc _
  have hoA := (hown.keep k1).keep kA
  go_enter Try.func37, Try.ntmps37
  go_wp2_with (at_builtin; rw [hw1.out]; refine wpList_appC B _ rfl _ _ rfl K x v ?_ hoA (Nat.le_trans hB (Keep.trans k1 kA).le) ⟨w.heap.size + 1, 0, none⟩ 1 ?_ hnw hl ?_; rotate_left 2; intro v5 w5 hO5 g5 hv5; obtain ⟨g, cap, e5, hgB⟩ : ∃ g cap, v5 = .slice (some ⟨g, 0, none⟩) (K.length + 1) cap ∧ B ≤ g := (by rcases hO5.2 with ⟨h1, h2⟩ | ⟨g, cap, cur, hv, hg, -⟩; (· simp at h2); (· exact ⟨g, cap, by rw [hv, List.length_append]; rfl, hg⟩)); subst e5)
  rotate_left 1
  · rfl
  · rfl
  have gw : w.grownBy w5 v.ownBlock := by
    have kk := Keep.trans k1 kA
    exact ⟨g5.os.trans kk.os, g5.tape.trans kk.tape, g5.output.trans kk.output, Nat.le_trans kk.le g5.size, fun b hb hne => (g5.block b (Nat.lt_of_lt_of_le hb kk.le) hne).trans (kk.block b hb)⟩
  have hgn : Hid (some g = v.ownBlock ∨ w.heap.size ≤ g) := by
    rcases hv5 with q | q
    · exact .inl q
    · have : g = _ := Option.some.inj q
      exact .inr (by rw [this]; exact (Keep.trans k1 kA).le)
  clear hnw hoA b0 b1 b2 b3 b4 g5
  have hO5' : Hid _ := hO5
  clear hO5
  go_loopw [5] (fun iv wr => ∃ (P Q : List CI), iv = .int .i64 (P.length : Int) ∧ OwnC B wr (.slice (some ⟨g, 0, none⟩) (K.length + 1) cap) (P ++ x :: Q) ∧ Hid (K = P ++ Q) ∧ Hid (∀ q ∈ Q, Cu.kI x < Cu.kI q) ∧ Hid (w.grownBy wr v.ownBlock)) (fun iv _ => (intOf iv).toNat)
  case atStart => exact ⟨K, [], by go_num, hO5'.out, (List.append_nil K).symm, fun q hq => (by cases hq), gw⟩
  case round =>
    obtain ⟨P, Q, rfl, hO, hK, hQ, hg⟩ := hrel
    have hFin : Hid ((∀ p ∈ P, Cu.kI p ≤ Cu.kI x) → srt Cu.kI (P ++ x :: Q) ∧ eqv Cu.kI (P ++ x :: Q) (K ++ [x])) := by
      intro hP
      have hsK : srt Cu.kI (P ++ Q) := by rw [← hK.out]; exact hs
      refine ⟨?_, ?_⟩
      · obtain ⟨q1, q2, q3⟩ := List.pairwise_append.1 hsK
        refine List.pairwise_append.2 ⟨q1, List.pairwise_cons.2 ⟨fun q hq => Int.le_of_lt (hQ.out q hq), q2⟩, fun a ha b hb => ?_⟩
        rcases List.mem_cons.1 hb with rfl | hb
        · exact hP a ha
        · exact q3 a ha b hb
      · rw [hK.out, List.append_assoc]
        refine eqv.app (eqv.refl P) ?_
        exact eqv.swap (X := [x]) (Y := Q) fun a ha b hb => by
          rw [List.mem_singleton.1 ha]
          exact Int.ne_of_lt (hQ.out b hb)
    by_cases hP0 : P = []
    · subst hP0
      have HF := hFin.out (fun p hp => by cases hp)
      replace HF : Hid _ := HF
      replace hO : Hid _ := hO
      go_wp2_with fail
      go_quiet (fail)
      go_wp2_with fail
      try simp only [Exit.inBlock, Exit.then]
      have kd : Keep wr (wr.drewN nq) := (Keep.refl wr).drewN nq
      refine bodyPost_ret (results_tmp rfl _ _ _) rfl ?_
      refine ⟨_, _, rfl, OwnC.keep hO.out kd, HF.out.1, HF.out.2, ⟨kd.os.trans hg.out.os, kd.tape.trans hg.out.tape, kd.output.trans hg.out.output, Nat.le_trans hg.out.size kd.size, fun b hb hne => (kd.block b (Nat.lt_of_lt_of_le hb hg.out.size)).trans (hg.out.block b hb hne)⟩, ?_⟩
      rcases hgn.out with q | q
      · exact .inl q
      · exact .inr ⟨g, rfl, q⟩
    · obtain ⟨P', p, rfl⟩ : ∃ P' p, P = P' ++ [p] := ⟨P.dropLast, P.getLast hP0, (List.dropLast_concat_getLast hP0).symm⟩
      obtain ⟨m, hm⟩ : ∃ m, P'.length = m := ⟨_, rfl⟩
      have hKl : Hid (K.length = m + 1 + Q.length) := by show _ = _; rw [hK.out]; simp [hm]; omega
      have hlen : (P' ++ [p] ++ x :: Q).length = m + 1 + 1 + Q.length := by simp [hm]; omega
      have a1 := hO.at (j := m + 1) (by omega)
      have a0 := hO.at (j := m) (by omega)
      rw [show (P' ++ [p] ++ x :: Q).getD (m + 1) Cu.d0 = x by rw [← hm]; simp [List.getD]] at a1
      rw [show (P' ++ [p] ++ x :: Q).getD m Cu.d0 = p by rw [← hm]; simp [List.getD]] at a0
      have i1 : ((m : Int) + 1) < ((K.length : Int) + 1) := by have := hKl.out; omega
      have i0 : ((m : Int)) < ((K.length : Int) + 1) := by have := hKl.out; omega
      have i2 : (0 : Int) < (m : Int) + 1 := by omega
      have hlp : (((P' ++ [p]).length : Nat) : Int) = (m : Int) + 1 := by simp [hm]
      rw [hlp]
      have fx := hF x (by simp)
      have fp := hF p (by rw [hK.out]; simp)
      have hlss := lss_key fx.1 fp.1 fx.2 fp.2
      have a10 := a1.c0
      have a11 := a1.c1
      have a12 := a1.c2
      have a13 := a1.c3
      have a14 := a1.c4
      have a00 := a0.c0
      have a01 := a0.c1
      have a02 := a0.c2
      have a03 := a0.c3
      have a04 := a0.c4
      by_cases hc : key x.1.th < key p.1.th
      · rw [decide_eq_true hc] at hlss
        replace hO : Hid _ := hO
        go_wp2_with fail
        go_quiet (fail)
        have kd : Keep wr (wr.drewN nq) := (Keep.refl wr).drewN nq
        generalize wr.drewN nq = W at *
        have hOW : OwnC B W _ _ := OwnC.keep hO.out kd
        obtain ⟨hgB', c9, hg9⟩ := hOW.block (b := g) rfl
        have hgW := (Array.getElem?_eq_some_iff.1 hg9).1
        obtain ⟨WA, hWA⟩ : ∃ WA, W.alloc (Obj.cells #[Value.float .f64 x.1.th, .slice x.2.1 x.1.cs.length x.2.2, .int .i64 x.1.tr, .int .i64 x.1.fr, .int .i64 x.1.to] 57) = WA := ⟨_, rfl⟩
        have kA : Keep W WA := by rw [← hWA]; exact (Keep.refl W).alloc _
        have rA : WA.heap[W.heap.size]? = some (Obj.cells #[Value.float .f64 x.1.th, .slice x.2.1 x.1.cs.length x.2.2, .int .i64 x.1.tr, .int .i64 x.1.fr, .int .i64 x.1.to] 57 (0, 0)) := by rw [← hWA]; exact heap_alloc_new W _
        have hOA := hOW.keep kA
        have hOB := hOA.put (m + 1) p (by omega)
        have q1 := hOW.at (j := m + 1) (by omega)
        have s1' := hOA.at (j := m + 1) (by omega)
        have s0' := hOA.at (j := m) (by omega)
        have u0' := hOB.at (j := m) (by rw [List.length_set]; omega)
        rw [show (P' ++ [p] ++ x :: Q).getD (m + 1) Cu.d0 = x by rw [← hm]; simp [List.getD]] at q1
        rw [show (P' ++ [p] ++ x :: Q).getD m Cu.d0 = p by rw [← hm]; simp [List.getD]] at s0'
        have rB : (Cu.put WA g (m + 1) p).heap[W.heap.size]? = some (Obj.cells #[Value.float .f64 x.1.th, .slice x.2.1 x.1.cs.length x.2.2, .int .i64 x.1.tr, .int .i64 x.1.fr, .int .i64 x.1.to] 57 (0, 0)) := by rw [put_other WA g (m + 1) p W.heap.size (by omega)]; exact rA
        have z0 := cell_of_row _ _ 0 _ 57 (0, 0) rB
        have z1 := cell_of_row _ _ 1 _ 57 (0, 0) rB
        have z2 := cell_of_row _ _ 2 _ 57 (0, 0) rB
        have z3 := cell_of_row _ _ 3 _ 57 (0, 0) rB
        have z4 := cell_of_row _ _ 4 _ 57 (0, 0) rB
        simp at z0 z1 z2 z3 z4
        obtain ⟨q10, q11, q12, q13, q14, -, -, -, -, -⟩ := q1
        have hfin := hOB.put m x (by rw [List.length_set]; omega)
        replace hfin : Hid _ := hfin
        rw [show (P' ++ [p] ++ x :: Q).getD (m + 1) Cu.d0 = x by rw [← hm]; simp [List.getD]] at s1'
        rw [show ((P' ++ [p] ++ x :: Q).set (m + 1) p).getD m Cu.d0 = p by rw [← hm]; simp [List.getD]] at u0'
        obtain ⟨e10, e11, e12, e13, e14, f10, f11, f12, f13, f14⟩ := s1'
        obtain ⟨s00, s01, s02, s03, s04, -, -, -, -, -⟩ := s0'
        obtain ⟨e00, e01, e02, e03, e04, f00, f01, f02, f03, f04⟩ := u0'
        unfold Cu.put at z0 z1 z2 z3 z4 e00 e01 e02 e03 e04 f00 f01 f02 f03 f04
        rw [← hWA] at z0 z1 z2 z3 z4 e00 e01 e02 e03 e04 f00 f01 f02 f03 f04 e10 e11 e12 e13 e14 f10 f11 f12 f13 f14 s00 s01 s02 s03 s04
        replace rA : Hid _ := rA
        replace rB : Hid _ := rB
        replace hWA : Hid _ := hWA
        replace hOW : Hid _ := hOW
        replace hg9 : Hid _ := hg9
        replace hgW : Hid _ := hgW
        replace kA : Hid _ := kA
        replace kd : Hid _ := kd
        clear a10 a11 a12 a13 a14 a00 a01 a02 a03 a04 a1 a0 hOA hOB
        go_wp2_with fail
        have hf := hfin.out
        have hset : ((P' ++ [p] ++ x :: Q).set (m + 1) p).set m x = P' ++ x :: (p :: Q) := by
          have h1 := set_two P' p x Q
          rw [hm] at h1
          rw [show P' ++ [p] ++ x :: Q = P' ++ p :: x :: Q by simp, List.set_comm _ _ (by omega)]
          rw [List.set_comm _ _ (by omega)]
          rw [← h1, List.set_comm _ _ (by omega)]
        rw [hset] at hf
        have o2 : Cu.Oth g WA (Cu.put (Cu.put WA g (m + 1) p) g m x) := ((Cu.Oth.refl g WA).put (m + 1) p).put m x
        have hg' := hg.out
        have hG : w.grownBy (Cu.put (Cu.put WA g (m + 1) p) g m x) v.ownBlock := by
          refine ⟨o2.os.trans (kA.out.os.trans (kd.out.os.trans hg'.os)), o2.tape.trans (kA.out.tape.trans (kd.out.tape.trans hg'.tape)), o2.output.trans (kA.out.output.trans (kd.out.output.trans hg'.output)), Nat.le_trans hg'.size (Nat.le_trans kd.out.size (Nat.le_trans kA.out.size o2.size)), fun b hb hne => ?_⟩
          have hb1 := Nat.lt_of_lt_of_le hb hg'.size
          have hb2 := Nat.lt_of_lt_of_le hb1 kd.out.size
          have hb3 := Nat.lt_of_lt_of_le hb2 kA.out.size
          have hbg : b ≠ g := by
            intro e
            rcases hgn.out with q | q
            · exact hne (by rw [e]; exact q)
            · omega
          exact (o2.block b hb3 hbg).trans ((kA.out.block b hb2).trans ((kd.out.block b hb1).trans (hg'.block b hb hne)))
        have hQ' : ∀ q ∈ p :: Q, Cu.kI x < Cu.kI q := by
          intro q hq
          rcases List.mem_cons.1 hq with rfl | hq
          · show ((key x.1.th : Nat) : Int) < ((key _ : Nat) : Int); omega
          · exact hQ.out q hq
        have hK' : K = P' ++ (p :: Q) := by rw [hK.out]; simp
        unfold Cu.put at hf hG
        rw [← hWA.out] at hf hG
        refine ⟨⟨P', p :: Q, by rw [hm], hf, hK', hQ', hG⟩, ?_⟩
        show ((m : Int)).toNat < ((m : Int) + 1).toNat
        omega
      · rw [decide_eq_false hc] at hlss
        have HF := hFin.out (fun a ha => by
          have hsK : srt Cu.kI (P' ++ [p] ++ Q) := by rw [← hK.out]; exact hs
          obtain ⟨q1, -, -⟩ := List.pairwise_append.1 hsK
          obtain ⟨-, -, q3⟩ := List.pairwise_append.1 q1
          have hpx : Cu.kI p ≤ Cu.kI x := by show ((key p.1.th : Nat) : Int) ≤ ((key x.1.th : Nat) : Int); omega
          rcases List.mem_append.1 ha with ha | ha
          · exact Int.le_trans (q3 a ha p (by simp)) hpx
          · rw [List.mem_singleton.1 ha]; exact hpx)
        replace HF : Hid _ := HF
        replace hO : Hid _ := hO
        go_wp2_with fail
        go_quiet (fail)
        go_wp2_with fail
        try simp only [Exit.inBlock, Exit.then]
        have kd : Keep wr (wr.drewN nq) := (Keep.refl wr).drewN nq
        refine bodyPost_ret (results_tmp rfl _ _ _) rfl ?_
        refine ⟨_, _, rfl, OwnC.keep hO.out kd, HF.out.1, HF.out.2, ⟨kd.os.trans hg.out.os, kd.tape.trans hg.out.tape, kd.output.trans hg.out.output, Nat.le_trans hg.out.size kd.size, fun b hb hne => (kd.block b (Nat.lt_of_lt_of_le hb hg.out.size)).trans (hg.out.block b hb hne)⟩, ?_⟩
        rcases hgn.out with q | q
        · exact .inl q
        · exact .inr ⟨g, rfl, q⟩
end Go.Proofs.Ytaogjiffnebnkaa
