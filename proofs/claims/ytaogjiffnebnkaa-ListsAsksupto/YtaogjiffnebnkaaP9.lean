import Derived.Test.YtaogjiffnebnkaaP8
import Derived.BigQuiet
set_option linter.unusedVariables false
set_option linter.unusedSimpArgs false
namespace Go.Proofs.Ytaogjiffnebnkaa
open Go.RowKit Go.Shelf
attribute [local go_sem] run_store_float
theorem newsG (W : World) (n : Nat) (hn : W.heap.size = n) (t a b : Nat) : ∀ j u, (UG [(t, a, b)])[j]? = some u → (W.alloc (Obj.cells #[Value.float .f64 t, Value.int .i64 (a : Nat), Value.int .i64 (b : Nat)] 44)).cell? ((⟨n, 0, none⟩ : Addr).add j) = some u := by
  subst hn
  intro j u hj
  rw [Go.WideShapes.add_plain, Nat.zero_add, cell_of_row _ _ _ _ 44 (0, 0) (heap_alloc_new W _)]
  simpa [UG] using hj
theorem OwnG.mono {B B' : Nat} {w : World} {v : Value} {l : List (Nat × Nat × Nat)} (h : OwnG B w v l) (hB : B' ≤ B) : OwnG B' w v l := by
  refine ⟨h.1, ?_⟩
  rcases h.2 with h2 | ⟨g, cap, cur, hv, hg, r⟩
  · exact .inl h2
  · exact .inr ⟨g, cap, cur, hv, Nat.le_trans hB hg, r⟩
theorem grp_len (L : List Ct) (k : Nat) : (grp L k).length ≤ k := by
  rcases Nat.eq_zero_or_pos k with e | e
  · subst e; simp [grp]
  · exact (grp_last L k e).2.1
set_option maxRecDepth 100000 in
set_option maxHeartbeats 2000000 in
theorem Groups_any (F : Int) (na : Option Addr) (L : List Ct) (nc : Nat) (ca : Option Addr) (cl cc : Nat) (la : Option Addr) (ll lc : Nat) (w : World) (hLn : L.length ≤ 1048576) (hr : RdC w na L) :
    Calls Try.prog 22 #[lst F na L.length nc ca cl cc la ll lc] w fun e w' => ∃ v, e = .returned v ∧ OwnG w.heap.size w' v (grp L L.length) ∧ Keep w w' := by
  unfold lst
  obtain ⟨w1, hw1, k0, tb⟩ : ∃ w1, w.alloc (Obj.cells #[Value.int IntKind.i64 F, Value.slice na L.length nc, Value.slice ca cl cc, Value.slice la ll lc] 33) = w1 ∧ Keep w w1 ∧ w1.heap[w.heap.size]? = some (Obj.cells #[Value.int IntKind.i64 F, Value.slice na L.length nc, Value.slice ca cl cc, Value.slice la ll lc] 33 (0, 0)) := ⟨_, rfl, (Keep.refl w).alloc _, heap_alloc_new w _⟩
  have b1 := cell_of_row _ _ 1 _ 33 (0, 0) tb
  simp only [List.getElem?_toArray, List.getElem?_cons_zero, List.getElem?_cons_succ] at b1
  have hr1 := hr.keep k0
  replace hw1 : Hid _ := hw1
  clear tb
  go_enter Try.func22, Try.ntmps22
  go_wp2_with fail
  rw [hw1.out]
  go_loopw [3, 9] (fun v iv wr => ∃ k : Nat, k ≤ L.length ∧ iv = .int .i64 k ∧ OwnG w1.heap.size wr v (grp L k) ∧ Keep w1 wr) (fun _ iv _ => L.length - (intOf iv).toNat)
  case atStart => exact ⟨0, by omega, rfl, OwnG.nil _ _, Keep.refl w1⟩
  case round =>
    obtain ⟨k, hk, rfl, hO, kw⟩ := hrel
    have b1 := kw.cell b1
    by_cases hkl : k < L.length
    · have hkc : (k : Int) < (L.length : Int) := by omega
      obtain ⟨b, o, ca', cp', e1, hc⟩ := (hr1.keep kw) k hkl
      have hrw := hr1.keep kw
      have c0 := hc.c0
      have c1 := hc.c1
      have c2 := hc.c2
      have c3 := hc.c3
      have c4 := hc.c4
      clear hc
      have hgl := grp_len L k
      have hgs : grp L (k + 1) = if 0 < k ∧ eqF (L.getD k cd0).th (L.getD (k - 1) cd0).th = true then (grp L k).set ((grp L k).length - 1) (((grp L k).getD ((grp L k).length - 1) gt0).1, ((grp L k).getD ((grp L k).length - 1) gt0).2.1, k + 1) else grp L k ++ [((L.getD k cd0).th, k, k + 1)] := rfl
      obtain ⟨X1, hX1, kX, tX⟩ : ∃ X1, wr.alloc (Obj.cells #[Value.float FloatKind.f64 (L.getD k cd0).th, Value.slice ca' (L.getD k cd0).cs.length cp', Value.int IntKind.i64 (L.getD k cd0).tr, Value.int IntKind.i64 (L.getD k cd0).fr, Value.int IntKind.i64 (L.getD k cd0).to] 57) = X1 ∧ Keep wr X1 ∧ X1.heap[wr.heap.size]? = some (Obj.cells #[Value.float FloatKind.f64 (L.getD k cd0).th, Value.slice ca' (L.getD k cd0).cs.length cp', Value.int IntKind.i64 (L.getD k cd0).tr, Value.int IntKind.i64 (L.getD k cd0).fr, Value.int IntKind.i64 (L.getD k cd0).to] 57 (0, 0)) := ⟨_, rfl, (Keep.refl wr).alloc _, heap_alloc_new wr _⟩
      have y0 := cell_of_row _ _ 0 _ 57 (0, 0) tX
      simp only [List.getElem?_toArray, List.getElem?_cons_zero, List.getElem?_cons_succ] at y0
      have b1X := kX.cell b1
      have hOX := hO.keep kX
      have kwX := kw.trans kX
      clear tX
      replace hX1 : Hid _ := hX1
      replace hgs : Hid _ := hgs
      by_cases h0 : 0 < k
      · have g0 : decide ((0 : Int) < (k : Int)) = true := decide_eq_true (by omega)
        have hsub : (k : Int) - 1 = ((k - 1 : Nat) : Int) := by omega
        obtain ⟨b', o', ca2, cp2, e2, hc2⟩ := hrw (k - 1) (by omega)
        subst e1
        simp only [Option.some.injEq, Addr.mk.injEq, and_true] at e2
        obtain ⟨rfl, rfl⟩ := e2
        have z0 := kX.cell hc2.c0
        clear hc2 hrw
        have hgl2 := grp_last L k h0
        cases he : eqF (L.getD k cd0).th (L.getD (k - 1) cd0).th
        · have he' : (FloatKind.f64.format.order (L.getD k cd0).th (L.getD (k - 1) cd0).th == some .eq) = false := he
          have HG : Hid (grp L (k + 1) = grp L k ++ [((L.getD k cd0).th, k, k + 1)]) := by show _ = _; rw [hgs.out, if_neg (by rw [he]; simp)]
          clear hgs he hgl2
          generalize grp L k = G at *
          generalize (L.getD (k - 1) cd0).th = t0 at *
          generalize L.getD k cd0 = N at *
          go_wp2_with fail
          rw [hX1.out]
          go_quiet (fail)
          go_simp
          have kq := (Keep.refl X1).drewN nq
          have y0q := kq.cell y0
          have kq2 := fun o => kq.alloc o
          have hOq := fun o => hOX.keep (kq2 o)
          go_wp2_with (at_builtin; refine wpList_appG w1.heap.size _ rfl _ _ rfl G (N.th, k, k + 1) u3 ?_ (hOq _) (Nat.le_trans kwX.le (kq2 _).le) ⟨X1.heap.size, 0, none⟩ 1 ?_ (newsG _ _ (by simp) N.th k (k + 1)) (by omega) ?_; rotate_left 2; intro v5 w5 hO5 g5 hv5)
          · go_roundw
            case rel => exact ⟨k + 1, by omega, by go_num, by rw [HG.out]; exact hO5, Below.grown (kwX.trans (kq2 _)) g5 (kwX.trans (kq2 _)).le (fun b hb => (hOX.block hb).1)⟩
            case measure => simp [intOf]; omega
          all_goals rfl
        · have he' : (FloatKind.f64.format.order (L.getD k cd0).th (L.getD (k - 1) cd0).th == some .eq) = true := he
          have HG : Hid (grp L (k + 1) = (grp L k).set ((grp L k).length - 1) (((grp L k).getD ((grp L k).length - 1) gt0).1, ((grp L k).getD ((grp L k).length - 1) gt0).2.1, k + 1)) := by show _ = _; rw [hgs.out, if_pos ⟨h0, he⟩]
          clear hgs he
          generalize grp L k = G at *
          generalize (L.getD (k - 1) cd0).th = t0 at *
          generalize L.getD k cd0 = N at *
          obtain ⟨av, cv, rfl, hcv, hrv⟩ := hO.shape
          obtain ⟨g, rfl, -⟩ := hrv 0 hgl2.1
          have hgB := (hO.block (b := g) rfl).1
          obtain ⟨m, hm⟩ : ∃ m, G.length - 1 = m := ⟨_, rfl⟩
          have hsub2 : (G.length : Int) - 1 = (m : Int) := by omega
          have hmG : m < G.length := by omega
          have hset := fun (wx : World) (kx : Keep X1 wx) => (hOX.keep kx).set (k := m) hmG (k + 1)
          rw [hm] at HG hgl2
          rw [hgl2.2.2] at hset
          clear hrv hcv hO hOX
          go_wp2_with fail
          rw [hX1.out]
          go_quiet (fail)
          go_simp
          have kq := (Keep.refl X1).drewN nq
          obtain ⟨hs1, hs2, hs3⟩ := hset _ kq
          go_wp2_with fail
          go_roundw
          case rel => exact ⟨k + 1, by omega, by go_num, by rw [HG.out]; exact hs1, (kwX.trans kq).setCell hgB _⟩
          case measure => simp [intOf]; omega
      · have g0 : decide ((0 : Int) < (k : Int)) = false := decide_eq_false (by omega)
        have HG : Hid (grp L (k + 1) = grp L k ++ [((L.getD k cd0).th, k, k + 1)]) := by show _ = _; rw [hgs.out, if_neg (fun h => h0 h.1)]
        subst e1
        clear hgs hrw
        generalize grp L k = G at *
        generalize L.getD k cd0 = N at *
        go_wp2_with fail
        rw [hX1.out]
        go_quiet (fail)
        go_simp
        have kq := (Keep.refl X1).drewN nq
        have y0q := kq.cell y0
        have kq2 := fun o => kq.alloc o
        have hOq := fun o => hOX.keep (kq2 o)
        go_wp2_with (at_builtin; refine wpList_appG w1.heap.size _ rfl _ _ rfl G (N.th, k, k + 1) u3 ?_ (hOq _) (Nat.le_trans kwX.le (kq2 _).le) ⟨X1.heap.size, 0, none⟩ 1 ?_ (newsG _ _ (by simp) N.th k (k + 1)) (by omega) ?_; rotate_left 2; intro v5 w5 hO5 g5 hv5)
        · go_roundw
          case rel => exact ⟨k + 1, by omega, by go_num, by rw [HG.out]; exact hO5, Below.grown (kwX.trans (kq2 _)) g5 (kwX.trans (kq2 _)).le (fun b hb => (hOX.block hb).1)⟩
          case measure => simp [intOf]; omega
        all_goals rfl
    · have hkc : ¬ (k : Int) < (L.length : Int) := by omega
      obtain rfl : k = L.length := by omega
      go_wp2_with fail
      go_ret
      exact ⟨_, rfl, hO.mono k0.le, k0.trans kw⟩
end Go.Proofs.Ytaogjiffnebnkaa
