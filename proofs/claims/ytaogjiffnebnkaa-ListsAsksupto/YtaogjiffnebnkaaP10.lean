import Derived.Test.YtaogjiffnebnkaaP9
set_option linter.unusedVariables false
set_option linter.unusedSimpArgs false
namespace Go.Proofs.Ytaogjiffnebnkaa
open Go.RowKit Go.Shelf
attribute [local go_sem] run_store_float
set_option maxRecDepth 100000 in
set_option maxHeartbeats 2000000 in
theorem rGroups_any (F : Int) (na : Option Addr) (L : List Ct) (nc : Nat) (ca : Option Addr) (cl cc : Nat) (la : Option Addr) (ll lc : Nat) (w : World) (hLn : L.length ≤ 1048576) (hr : RdC w na L) :
    Calls Try.prog 23 #[lst F na L.length nc ca cl cc la ll lc] w fun e w' => ∃ v, e = .returned v ∧ OwnG w.heap.size w' v (grp L L.length) ∧ Keep w w' := by
  unfold lst
  obtain ⟨w1, hw1, k0, tb⟩ : ∃ w1, w.alloc (Obj.cells #[Value.int IntKind.i64 F, Value.slice na L.length nc, Value.slice ca cl cc, Value.slice la ll lc] 33) = w1 ∧ Keep w w1 ∧ w1.heap[w.heap.size]? = some (Obj.cells #[Value.int IntKind.i64 F, Value.slice na L.length nc, Value.slice ca cl cc, Value.slice la ll lc] 33 (0, 0)) := ⟨_, rfl, (Keep.refl w).alloc _, heap_alloc_new w _⟩
  have b1 := cell_of_row _ _ 1 _ 33 (0, 0) tb
  simp only [List.getElem?_toArray, List.getElem?_cons_zero, List.getElem?_cons_succ] at b1
  have hr1 := hr.keep k0
  replace hw1 : Hid _ := hw1
  clear tb
  go_enter Try.func23, Try.ntmps23
  go_wp2_with fail
  rw [hw1.out]
  go_loopw [3, 4] (fun v iv wr => ∃ k : Nat, k ≤ L.length ∧ iv = .int .i64 k ∧ OwnG w1.heap.size wr v (grp L k) ∧ Keep w1 wr) (fun _ iv _ => L.length - (intOf iv).toNat)
  case atStart => exact ⟨0, by omega, rfl, OwnG.nil _ _, Keep.refl w1⟩
  case round =>
    obtain ⟨k, hk, rfl, hO, kw⟩ := hrel
    have b1 := kw.cell b1
    by_cases hkl : k < L.length
    · have hkc : (k : Int) < (L.length : Int) := by omega
      obtain ⟨b, o, ca', cp', e1, hc⟩ := (hr1.keep kw) k hkl
      have hrw := hr1.keep kw
      have c0 := hc.c0
      clear hc
      have hgl := grp_len L k
      have hgs : grp L (k + 1) = if 0 < k ∧ eqF (L.getD k cd0).th (L.getD (k - 1) cd0).th = true then (grp L k).set ((grp L k).length - 1) (((grp L k).getD ((grp L k).length - 1) gt0).1, ((grp L k).getD ((grp L k).length - 1) gt0).2.1, k + 1) else grp L k ++ [((L.getD k cd0).th, k, k + 1)] := rfl
      replace hgs : Hid _ := hgs
      obtain ⟨av, cv, eu, hcv, hrv⟩ := hO.shape
      by_cases h0 : 0 < k
      · have hgl2 := grp_last L k h0
        have g0 : decide ((0 : Int) < ((grp L k).length : Int)) = true := decide_eq_true (by omega)
        have hsub : (k : Int) - 1 = ((k - 1 : Nat) : Int) := by omega
        obtain ⟨b', o', ca2, cp2, e2, hc2⟩ := hrw (k - 1) (by omega)
        subst e1
        simp only [Option.some.injEq, Addr.mk.injEq, and_true] at e2
        obtain ⟨rfl, rfl⟩ := e2
        have z0 := hc2.c0
        clear hc2 hrw
        subst eu
        cases he : eqF (L.getD k cd0).th (L.getD (k - 1) cd0).th
        · have he' : (FloatKind.f64.format.order (L.getD (k - 1) cd0).th (L.getD k cd0).th == some .eq) = false := (eqF_symm _ _).trans he
          have HG : Hid (grp L (k + 1) = grp L k ++ [((L.getD k cd0).th, k, k + 1)]) := by show _ = _; rw [hgs.out, if_neg (by rw [he]; simp)]
          clear hgs he hgl2 hrv
          generalize grp L k = G at *
          generalize (L.getD (k - 1) cd0).th = t0 at *
          generalize L.getD k cd0 = N at *
          go_wp2_with (at_builtin; refine wpList_appG w1.heap.size _ rfl _ _ rfl G (N.th, k, k + 1) _ ?_ (hO.keep ((Keep.refl wr).alloc _)) (Nat.le_trans kw.le ((Keep.refl wr).alloc _).le) ⟨wr.heap.size, 0, none⟩ 1 ?_ (newsG _ _ (by simp) N.th k (k + 1)) (by omega) ?_; rotate_left 2; intro v5 w5 hO5 g5 hv5)
          all_goals first
            | rfl
            | (refine ⟨⟨k + 1, by omega, by go_num, by rw [HG.out]; exact hO5, Below.grown (kw.alloc _) g5 (kw.alloc _).le (fun b hb => (hO.block hb).1)⟩, ?_⟩; simp [intOf]; omega)
            | (go_roundw
               case rel => exact ⟨k + 1, by omega, by go_num, by rw [HG.out]; exact hO5, Below.grown (kw.alloc _) g5 (kw.alloc _).le (fun b hb => (hO.block hb).1)⟩
               case measure => simp [intOf]; omega)
        · have he' : (FloatKind.f64.format.order (L.getD (k - 1) cd0).th (L.getD k cd0).th == some .eq) = true := (eqF_symm _ _).trans he
          have HG : Hid (grp L (k + 1) = (grp L k).set ((grp L k).length - 1) (((grp L k).getD ((grp L k).length - 1) gt0).1, ((grp L k).getD ((grp L k).length - 1) gt0).2.1, k + 1)) := by show _ = _; rw [hgs.out, if_pos ⟨h0, he⟩]
          clear hgs he
          generalize grp L k = G at *
          generalize (L.getD (k - 1) cd0).th = t0 at *
          generalize L.getD k cd0 = N at *
          obtain ⟨g, rfl, -⟩ := hrv 0 hgl2.1
          have hgB := (hO.block (b := g) rfl).1
          obtain ⟨m, hm⟩ : ∃ m, G.length - 1 = m := ⟨_, rfl⟩
          have hsub2 : (G.length : Int) - 1 = (m : Int) := by omega
          have hmG : m < G.length := by omega
          obtain ⟨hs1, hs2, hs3⟩ := hO.set (k := m) hmG (k + 1)
          rw [hm] at HG
          clear hrv hcv hgl2
          go_wp2_with fail
          go_roundw
          case rel => exact ⟨k + 1, by omega, by go_num, by rw [HG.out]; exact hs1, kw.setCell hgB _⟩
          case measure => simp [intOf]; omega
      · have e0 : (grp L k).length = 0 := by omega
        have g0 : decide ((0 : Int) < ((grp L k).length : Int)) = false := decide_eq_false (by omega)
        have HG : Hid (grp L (k + 1) = grp L k ++ [((L.getD k cd0).th, k, k + 1)]) := by show _ = _; rw [hgs.out, if_neg (fun h => h0 h.1)]
        subst e1
        subst eu
        clear hgs hrw hrv
        generalize grp L k = G at *
        generalize L.getD k cd0 = N at *
        replace e0 : Hid _ := e0
        go_wp2_with (at_builtin; refine wpList_appG w1.heap.size _ rfl _ _ rfl G (N.th, k, k + 1) _ ?_ (hO.keep ((Keep.refl wr).alloc _)) (Nat.le_trans kw.le ((Keep.refl wr).alloc _).le) ⟨wr.heap.size, 0, none⟩ 1 ?_ (newsG _ _ (by simp) N.th k (k + 1)) (by omega) ?_; rotate_left 2; intro v5 w5 hO5 g5 hv5)
        all_goals first
          | rfl
          | (refine ⟨⟨k + 1, by omega, by go_num, by rw [HG.out]; exact hO5, Below.grown (kw.alloc _) g5 (kw.alloc _).le (fun b hb => (hO.block hb).1)⟩, ?_⟩; simp [intOf]; omega)
          | (go_roundw
             case rel => exact ⟨k + 1, by omega, by go_num, by rw [HG.out]; exact hO5, Below.grown (kw.alloc _) g5 (kw.alloc _).le (fun b hb => (hO.block hb).1)⟩
             case measure => simp [intOf]; omega)
    · have hkc : ¬ (k : Int) < (L.length : Int) := by omega
      obtain rfl : k = L.length := by omega
      go_wp2_with fail
      go_ret
      exact ⟨_, rfl, hO.mono k0.le, k0.trans kw⟩
end Go.Proofs.Ytaogjiffnebnkaa
