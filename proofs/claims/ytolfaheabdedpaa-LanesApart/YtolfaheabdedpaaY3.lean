import Derived.Test.YtolfaheabdedpaaY2
set_option linter.unusedVariables false
set_option linter.unusedSimpArgs false
namespace Go.Proofs.Ytolfaheabdedpaa
open Go.RowKit Go.Shelf
set_option maxRecDepth 100000 in
set_option maxHeartbeats 2000000 in
theorem alike_eq (a b : Option Addr) (ca cb : Nat) (V : List (List Nat)) (w : World) (hl : V.length ≤ 17592186044416) (ha : RdS 1 w a V) (hb : RdS 1 w b V) :
    Calls Try.prog 13 #[.slice a V.length ca, .slice b V.length cb] w fun e w' => e = .returned (.bool true) ∧ Keep w w' := by
  have h7 := fun (x : Nat) (wx : World) => f64bits x wx
  go_enter Try.func13, Try.ntmps13
  go_wp2_with fail
  go_loopw [5] (fun i wr => ∃ k q : Nat, k ≤ V.length ∧ i = .int .i64 k ∧ wr = w.drewN q) (fun i _ => V.length - (intOf i).toNat)
  case atStart => exact ⟨0, 0, by omega, rfl, rfl⟩
  case round =>
    obtain ⟨k, q, hk, rfl, rfl⟩ := hrel
    by_cases hkl : k < V.length
    · have hkc : (k : Int) < (V.length : Int) := by omega
      obtain ⟨b1, o1, va, n, vc, rfl, c1, hn, hnc, hrf, hnl⟩ := ha k hkl
      obtain ⟨b2, o2, vb, n2, vd, rfl, d1, hn2, hnd, hrg, -⟩ := hb k hkl
      obtain rfl : n2 = n := by omega
      have hn : n2 = (V.getD k []).length := by omega
      have HN : Hid (n2 = (V.getD k []).length) := hn
      have hnm : n2 ≤ 17592186044416 := by omega
      clear hn hn2 hnl
      generalize V.getD k [] = l at *
      go_wp2_with fail
      go_quiet (fail)
      go_wp2_with fail
      go_loopw [6] (fun i wr => ∃ j q : Nat, j ≤ n2 ∧ i = .int .i64 j ∧ wr = w.drewN q) (fun i _ => n2 - (intOf i).toNat)
      case atStart => exact ⟨0, q + nq, by omega, rfl, by rw [World.drewN_drewN]⟩
      case round =>
        obtain ⟨j, q2, hj, rfl, rfl⟩ := hrel
        by_cases hjl : j < n2
        · have hjc : (j : Int) < (n2 : Int) := by omega
          obtain ⟨b3, o3, rfl, e1⟩ := hrf j (by have := HN.out; omega)
          obtain ⟨b4, o4, rfl, e2⟩ := hrg j (by have := HN.out; omega)
          generalize l.getD j 0 = x at *
          go_wp2_with fail
          go_quiet (fail)
          go_wp2_with fail
          go_roundw
          case rel => exact ⟨j + 1, _, by omega, by go_num, rfl⟩
          case measure => simp [intOf]; omega
        · have hjc : ¬ (j : Int) < (n2 : Int) := by omega
          go_wp2_with fail
          go_roundw
          case rel => exact ⟨k + 1, _, by omega, by go_num, rfl⟩
          case measure => simp [intOf]; omega
    · have hkc : ¬ (k : Int) < (V.length : Int) := by omega
      go_wp2_with fail
      go_ret
      exact ⟨rfl, (Keep.refl w).drewN _⟩
set_option maxRecDepth 100000 in
set_option maxHeartbeats 2000000 in
theorem groups_eq (a b : Option Addr) (ca cb : Nat) (V : List (List Nat)) (w : World) (hl : V.length ≤ 17592186044416) (ha : RdS 8 w a V) (hb : RdS 8 w b V) :
    Calls Try.prog 12 #[.slice a V.length ca, .slice b V.length cb] w fun e w' => e = .returned (.bool true) ∧ Keep w w' := by
  have h7 := fun (x : Nat) (wx : World) => f64bits x wx
  go_enter Try.func12, Try.ntmps12
  go_wp2_with fail
  go_loopw [5] (fun i wr => ∃ k q : Nat, k ≤ V.length ∧ i = .int .i64 k ∧ wr = w.drewN q) (fun i _ => V.length - (intOf i).toNat)
  case atStart => exact ⟨0, 0, by omega, rfl, rfl⟩
  case round =>
    obtain ⟨k, q, hk, rfl, rfl⟩ := hrel
    by_cases hkl : k < V.length
    · have hkc : (k : Int) < (V.length : Int) := by omega
      obtain ⟨b1, o1, va, n, vc, rfl, c1, hn, hnc, hrf, hnl⟩ := ha k hkl
      obtain ⟨b2, o2, vb, n2, vd, rfl, d1, hn2, hnd, hrg, -⟩ := hb k hkl
      obtain rfl : n2 = n := by omega
      have HN : Hid (n2 * 8 = (V.getD k []).length) := hn
      have hnm : n2 ≤ 17592186044416 := by omega
      clear hn hn2 hnl
      generalize V.getD k [] = l at *
      go_wp2_with fail
      go_quiet (fail)
      go_wp2_with fail
      go_loopw [6] (fun i wr => ∃ j q : Nat, j ≤ n2 ∧ i = .int .i64 j ∧ wr = w.drewN q) (fun i _ => n2 - (intOf i).toNat)
      case atStart => exact ⟨0, q + nq, by omega, rfl, by rw [World.drewN_drewN]⟩
      case round =>
        obtain ⟨j, q2, hj, rfl, rfl⟩ := hrel
        by_cases hjl : j < n2
        · have hjc : (j : Int) < (n2 : Int) := by omega
          go_wp2_with fail
          go_loopw [7] (fun i wr => ∃ f q : Nat, f ≤ 8 ∧ i = .int .i64 f ∧ wr = w.drewN q) (fun i _ => 8 - (intOf i).toNat)
          case atStart => exact ⟨0, q2, by omega, rfl, rfl⟩
          case round =>
            obtain ⟨f, q3, hf, rfl, rfl⟩ := hrel
            by_cases hfl : f < 8
            · have hfc : (f : Int) < 8 := by omega
              obtain ⟨b3, o3, rfl, e1⟩ := hrf (j * 8 + f) (by have := HN.out; omega)
              obtain ⟨b4, o4, rfl, e2⟩ := hrg (j * 8 + f) (by have := HN.out; omega)
              rw [← Nat.add_assoc] at e1 e2
              generalize l.getD (j * 8 + f) 0 = x at *
              go_wp2_with fail
              go_quiet (fail)
              go_wp2_with fail
              go_roundw
              case rel => exact ⟨f + 1, _, by omega, by go_num, rfl⟩
              case measure => simp [intOf]; omega
            · have hfc : ¬ (f : Int) < 8 := by omega
              go_wp2_with fail
              go_roundw
              case rel => exact ⟨j + 1, _, by omega, by go_num, rfl⟩
              case measure => simp [intOf]; omega
        · have hjc : ¬ (j : Int) < (n2 : Int) := by omega
          go_wp2_with fail
          go_roundw
          case rel => exact ⟨k + 1, _, by omega, by go_num, rfl⟩
          case measure => simp [intOf]; omega
    · have hkc : ¬ (k : Int) < (V.length : Int) := by omega
      go_wp2_with fail
      go_ret
      exact ⟨rfl, (Keep.refl w).drewN _⟩
end Go.Proofs.Ytolfaheabdedpaa
