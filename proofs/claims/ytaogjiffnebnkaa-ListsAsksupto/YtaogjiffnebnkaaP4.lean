import Derived.Test.YtaogjiffnebnkaaP3
set_option linter.unusedVariables false
set_option linter.unusedSimpArgs false
namespace Go.Proofs.Ytaogjiffnebnkaa
open Go.RowKit Go.Shelf
attribute [local go_sem] run_store_float
theorem newsC (W : World) (n : Nat) (hn : W.heap.size = n) (N : Ct) (va : Option Addr) (cc : Nat) : ∀ j u, (UC [(N, va, cc)])[j]? = some u → (W.alloc (Obj.cells #[Value.float .f64 N.th, Value.slice va N.cs.length cc, Value.int .i64 N.tr, Value.int .i64 N.fr, Value.int .i64 N.to] 57)).cell? ((⟨n, 0, none⟩ : Addr).add j) = some u := by
  subst hn
  intro j u hj
  rw [Go.WideShapes.add_plain, Nat.zero_add, cell_of_row _ _ _ _ 57 (0, 0) (heap_alloc_new W _)]
  simpa [UC] using hj
theorem take_snoc {L : List Ct} {k : Nat} (hk : k < L.length) : L.take (k + 1) = L.take k ++ [L.getD k cd0] := by
  rw [List.take_succ_eq_append_getElem hk]; simp [List.getD, hk]
set_option maxRecDepth 100000 in
set_option maxHeartbeats 2000000 in
theorem copies_any (a : Option Addr) (c : Nat) (L : List Ct) (w : World) (hLn : L.length ≤ 1048576) (ha : RdC w a L) :
    Calls Try.prog 41 #[.slice a L.length c] w fun e w' => ∃ v, e = .returned v ∧ ∃ K, OC L w v w' K := by
  go_enter Try.func41, Try.ntmps41
  go_wp2_with fail
  go_loopw [3, 8] (fun v iv wr => ∃ (k : Nat) (K : List (Ct × Option Addr × Nat)), k ≤ L.length ∧ iv = .int .i64 k ∧ OC (L.take k) w v wr K) (fun _ iv _ => L.length - (intOf iv).toNat)
  case atStart => exact ⟨0, [], by omega, rfl, OC.nil w⟩
  case round =>
    obtain ⟨k, K, hk, rfl, hI⟩ := hrel
    by_cases hkl : k < L.length
    · have hkc : (k : Int) < (L.length : Int) := by omega
      obtain ⟨b, o, ca, cp, rfl, hnd⟩ := (ha.keep hI.kp) k hkl
      have hst := take_snoc hkl
      have hKl : K.length + 1 ≤ 1099511627776 := by have := hI.len; rw [List.length_take] at this; omega
      generalize L.getD k cd0 = N at *
      have c0 := hnd.c0
      have c1 := hnd.c1
      have c2 := hnd.c2
      have c3 := hnd.c3
      have c4 := hnd.c4
      obtain ⟨X1, hX1, kX⟩ : ∃ X1, wr.alloc (Obj.cells #[Value.float FloatKind.f64 N.th, Value.slice ca N.cs.length cp, Value.int IntKind.i64 N.tr, Value.int IntKind.i64 N.fr, Value.int IntKind.i64 N.to] 57) = X1 ∧ Keep wr X1 := ⟨_, rfl, (Keep.refl wr).alloc _⟩
      have hC := copyOf_any N ca cp X1 (hnd.rd.keep kX) hnd.sz hnd.cp
      have hsz := hnd.sz
      have hB4 := hI.kp.le
      unfold Ct.v at hC
      replace hX1 : Hid _ := hX1
      replace hst : Hid _ := hst
      clear hnd
      go_wp2_with (first | (go_at_call 43; rw [hX1.out]; refine hC.mono ?_; rintro e w2 ⟨va, cc, rfl, hO, hcc, k2⟩) | (at_builtin; refine wpList_appC w.heap.size _ rfl _ _ rfl K (N, va, cc) u3 ?_ (hI.own.keep ((kX.trans k2).alloc _)) (Nat.le_trans hB4 ((kX.trans k2).alloc _).le) ⟨w2.heap.size, 0, none⟩ 1 ?_ (newsC _ _ (by simp) N va cc) hKl ?_; rotate_left 2; intro v5 w5 hO5 g5 hv5))
      · go_roundw
        case rel =>
          refine ⟨k + 1, K ++ [(N, va, cc)], by omega, by go_num, ?_⟩
          rw [hst.out]
          refine hI.step ((kX.trans k2).alloc _) hsz ?_ hO5 g5
          exact (hO.mono (Nat.le_trans hB4 kX.le)).keep ((Keep.refl w2).alloc _)
        case measure => simp [intOf]; omega
      all_goals rfl
    · have hkc : ¬ (k : Int) < (L.length : Int) := by omega
      obtain rfl : k = L.length := by omega
      rw [List.take_length] at hI
      go_wp2_with fail
      go_ret
      exact ⟨_, rfl, K, hI⟩
set_option maxRecDepth 100000 in
set_option maxHeartbeats 2000000 in
theorem Copied_any (a : Option Addr) (c : Nat) (L : List Ct) (w : World) (hLn : L.length ≤ 1048576) (ha : RdC w a L) :
    Calls Try.prog 14 #[.slice a L.length c] w fun e w' => ∃ v, e = .returned v ∧ ∃ K, OC L w v w' K := by
  go_enter Try.func14, Try.ntmps14
  go_wp2_with fail
  go_loopw [3, 4] (fun v iv wr => ∃ (k : Nat) (K : List (Ct × Option Addr × Nat)), k ≤ L.length ∧ iv = .int .i64 k ∧ OC (L.take k) w v wr K) (fun _ iv _ => L.length - (intOf iv).toNat)
  case atStart => exact ⟨0, [], by omega, rfl, OC.nil w⟩
  case round =>
    obtain ⟨k, K, hk, rfl, hI⟩ := hrel
    by_cases hkl : k < L.length
    · have hkc : (k : Int) < (L.length : Int) := by omega
      obtain ⟨b, o, ca, cp, rfl, hnd⟩ := (ha.keep hI.kp) k hkl
      have hst := take_snoc hkl
      have hKl : K.length + 1 ≤ 1099511627776 := by have := hI.len; rw [List.length_take] at this; omega
      generalize L.getD k cd0 = N at *
      have c0 := hnd.c0
      have c1 := hnd.c1
      have c2 := hnd.c2
      have c3 := hnd.c3
      have c4 := hnd.c4
      obtain ⟨X1, hX1, kX, sX, r0, r1⟩ := boxes2n wr #[Value.float FloatKind.f64 N.th, Value.slice ca N.cs.length cp, Value.int IntKind.i64 N.tr, Value.int IntKind.i64 N.fr, Value.int IntKind.i64 N.to] #[] 57 3
      have hrd := hnd.rd.keep kX
      have hsz := hnd.sz
      have hB4 := hI.kp.le
      have hz0 : wr.heap.size < X1.heap.size := (Array.getElem?_eq_some_iff.1 r0).1
      have oe : OwnZ 3 (wr.heap.size + 1) X1 (.slice (some ⟨wr.heap.size + 1, 0, none⟩) 0 0) [] := ⟨rfl, .inr ⟨wr.heap.size + 1, 0, #[], rfl, Nat.le_refl _, r1, Nat.le_refl _, by simp [maxLen], rfl, rfl⟩⟩
      have x1 := cell_of_row _ _ 1 _ 57 (0, 0) r0
      simp at x1
      rw [← hX1] at x1
      replace hX1 : Hid _ := hX1
      replace hst : Hid _ := hst
      replace r0 : Hid _ := r0
      clear hnd r1
      go_wp2_with (at_builtin; first | (rw [hX1.out] at x1 ⊢; refine wpList_copyE (wr.heap.size + 1) rfl _ _ rfl _ oe (by omega) N.cs ca cp ?_ ?_ hrd hsz ?_; rotate_left 2; intro vc w2 hO g2; have k2 : Keep X1 w2 ∨ True := .inr trivial; obtain ⟨va, cc, rfl, hcc, hrc⟩ := hO.shape; have hb2 := (g2.block wr.heap.size hz0 (by simp)).trans r0.out; have fz := frozen_of_row w2 _ 1 _ 57 hb2; have d0 := cell_of_row w2 _ 0 _ 57 (0, 0) hb2; have d1 := cell_of_row w2 _ 1 _ 57 (0, 0) hb2; have d2 := cell_of_row w2 _ 2 _ 57 (0, 0) hb2; have d3 := cell_of_row w2 _ 3 _ 57 (0, 0) hb2; have d4 := cell_of_row w2 _ 4 _ 57 (0, 0) hb2; simp at d0 d1 d2 d3 d4; replace hb2 : Hid _ := hb2; have kk2 : Keep wr w2 := Below.grown kX g2 kX.le (fun k hk => by simp at hk; omega); clear hrc c0 c1 c2 c3 c4 hrd) | (refine wpList_appC w.heap.size _ rfl _ _ rfl K (N, va, cc) u3 ?_ (hI.own.keep ((kk2.setCell (p := ⟨wr.heap.size, 1, none⟩) (Nat.le_refl _) _).alloc _)) (Nat.le_trans hB4 ((kk2.setCell (p := ⟨wr.heap.size, 1, none⟩) (Nat.le_refl _) _).alloc _).le) ⟨w2.heap.size, 0, none⟩ 1 ?_ (newsC _ _ (by simp) N va cc) hKl ?_; rotate_left 2; intro v5 w5 hO5 g5 hv5))
      · go_roundw
        case rel =>
          have kW := (kk2.setCell (p := ⟨wr.heap.size, 1, none⟩) (Nat.le_refl _) (.slice va N.cs.length cc))
          have hO2 : OwnZ 3 (wr.heap.size + 1) (w2.setCell ⟨wr.heap.size, 1, none⟩ (.slice va N.cs.length cc)) (.slice va N.cs.length cc) N.cs := hO.same (fun b hb => neq_set w2 _ _ _ b (by have := (hO.block hb).1; omega))
          refine ⟨k + 1, K ++ [(N, va, cc)], by omega, by go_num, ?_⟩
          rw [hst.out]
          exact hI.step (kW.alloc _) hsz ((hO2.mono (by omega)).keep ((Keep.refl _).alloc _)) hO5 g5
        case measure => simp [intOf]; omega
      all_goals rfl
    · have hkc : ¬ (k : Int) < (L.length : Int) := by omega
      obtain rfl : k = L.length := by omega
      rw [List.take_length] at hI
      go_wp2_with fail
      go_ret
      exact ⟨_, rfl, K, hI⟩
end Go.Proofs.Ytaogjiffnebnkaa
