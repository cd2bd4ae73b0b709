import Derived.Test.YtonfjmibnnioiaaDoorY1
set_option linter.unusedVariables false
set_option linter.unusedSimpArgs false
namespace Go.Proofs.YtonfjmibnnioiaaDoor
open Go.RowKit Go.Shelf
attribute [local go_sem high] run_neqW run_neqR run_guardW run_guardR
set_option maxRecDepth 100000 in
set_option maxHeartbeats 2000000 in
theorem Same_eq (a a' : Option Addr) (c c' : Nat) (L : List Wd) (w : World) (h1 : RdG w a (WvL L)) (h2 : RdG w a' (WvL L)) (hL : L.length ≤ 4294967295) : Calls Tryd.prog 16 #[.slice a L.length c, .slice a' L.length c'] w fun e w' => e = .returned (.bool true) ∧ Keep w w' := by
  obtain ⟨n, hn⟩ : ∃ n, L.length = n := ⟨_, rfl⟩
  rw [hn] at hL ⊢
  have hne : ((n : Int) != (n : Int)) = false := by simp
  replace hn : Hid _ := hn
  replace h1 : Hid _ := h1
  replace h2 : Hid _ := h2
  go_enter Tryd.func16, Tryd.ntmps16
  go_wp2_with fail
  go_loopw [13] (fun iv wr => ∃ k : Nat, iv = .int .i64 k ∧ k ≤ n ∧ Keep w wr) (fun iv _ => n - (intOf iv).toNat)
  case atStart => exact ⟨0, rfl, by omega, Keep.refl w⟩
  case round =>
    obtain ⟨k, rfl, hk, kw⟩ := hrel
    by_cases hlt : k < n
    · have hltc : decide ((k : Int) < (n : Int)) = true := decide_eq_true (by omega)
      obtain ⟨x0, x1, x2⟩ := WvL_get L k (by rw [hn.out]; exact hlt)
      obtain ⟨b, o, rfl, c0⟩ := RdG.keep h1.out kw _ _ x0
      obtain ⟨_, _, q, c1⟩ := RdG.keep h1.out kw _ _ x1
      cases q
      obtain ⟨_, _, q, c2⟩ := RdG.keep h1.out kw _ _ x2
      cases q
      obtain ⟨b', o', rfl, d0⟩ := RdG.keep h2.out kw _ _ x0
      obtain ⟨_, _, q, d1⟩ := RdG.keep h2.out kw _ _ x1
      cases q
      obtain ⟨_, _, q, d2⟩ := RdG.keep h2.out kw _ _ x2
      cases q
      rw [← Nat.add_assoc] at c1 c2 d1 d2
      generalize (L.getD k w00) = x at *
      obtain ⟨y1, y2, y3⟩ := x
      simp only [] at c0 c1 c2 d0 d1 d2
      clear x0 x1 x2
      have HK : Hid (k < n) := hlt
      have kw' : Hid (Keep w wr) := kw
      clear h1 h2 kw
      go_wp2_with fail
      go_region
      all_goals
        go_wp2_with fail
        go_roundw
        case rel => exact ⟨k + 1, by go_num, by have := HK.out; omega, Keep.drew (Hid.out kw')⟩
        case measure => have := HK.out; simp [intOf]; omega
    · have hltc : ¬ (k : Int) < (n : Int) := by omega
      obtain rfl : k = n := by omega
      go_wp2_with fail
      go_ret
      exact ⟨rfl, kw⟩
set_option maxRecDepth 100000 in
set_option maxHeartbeats 2000000 in
theorem rows_eq (a a' : Option Addr) (c c' : Nat) (L : List Rw') (w : World) (h1 : RdG w a (RvL L)) (h2 : RdG w a' (RvL L)) (hL : L.length ≤ 4294967295) : Calls Tryd.prog 11 #[.slice a L.length c, .slice a' L.length c'] w fun e w' => e = .returned (.bool true) ∧ Keep w w' := by
  obtain ⟨n, hn⟩ : ∃ n, L.length = n := ⟨_, rfl⟩
  rw [hn] at hL ⊢
  have hne : ((n : Int) != (n : Int)) = false := by simp
  replace hn : Hid _ := hn
  replace h1 : Hid _ := h1
  replace h2 : Hid _ := h2
  go_enter Tryd.func11, Tryd.ntmps11
  go_wp2_with fail
  go_loopw [13] (fun iv wr => ∃ k : Nat, iv = .int .i64 k ∧ k ≤ n ∧ Keep w wr) (fun iv _ => n - (intOf iv).toNat)
  case atStart => exact ⟨0, rfl, by omega, Keep.refl w⟩
  case round =>
    obtain ⟨k, rfl, hk, kw⟩ := hrel
    by_cases hlt : k < n
    · have hltc : decide ((k : Int) < (n : Int)) = true := decide_eq_true (by omega)
      obtain ⟨x0, x1, x2⟩ := RvL_get L k (by rw [hn.out]; exact hlt)
      obtain ⟨b, o, rfl, c0⟩ := RdG.keep h1.out kw _ _ x0
      obtain ⟨_, _, q, c1⟩ := RdG.keep h1.out kw _ _ x1
      cases q
      obtain ⟨_, _, q, c2⟩ := RdG.keep h1.out kw _ _ x2
      cases q
      obtain ⟨b', o', rfl, d0⟩ := RdG.keep h2.out kw _ _ x0
      obtain ⟨_, _, q, d1⟩ := RdG.keep h2.out kw _ _ x1
      cases q
      obtain ⟨_, _, q, d2⟩ := RdG.keep h2.out kw _ _ x2
      cases q
      rw [← Nat.add_assoc] at c1 c2 d1 d2
      generalize (L.getD k r00) = x at *
      obtain ⟨y1, y2, y3⟩ := x
      simp only [] at c0 c1 c2 d0 d1 d2
      clear x0 x1 x2
      have HK : Hid (k < n) := hlt
      have kw' : Hid (Keep w wr) := kw
      clear h1 h2 kw
      go_wp2_with fail
      go_region
      all_goals
        go_wp2_with fail
        go_roundw
        case rel => exact ⟨k + 1, by go_num, by have := HK.out; omega, Keep.drew (Hid.out kw')⟩
        case measure => have := HK.out; simp [intOf]; omega
    · have hltc : ¬ (k : Int) < (n : Int) := by omega
      obtain rfl : k = n := by omega
      go_wp2_with fail
      go_ret
      exact ⟨rfl, kw⟩
set_option maxRecDepth 100000 in
set_option maxHeartbeats 2000000 in
theorem Texts_eq (a a' : Option Addr) (c c' : Nat) (L : List (List UInt8)) (w : World) (h1 : RdG w a (SvL L)) (h2 : RdG w a' (SvL L)) (hL : L.length ≤ 4294967295) : Calls Tryd.prog 21 #[.slice a L.length c, .slice a' L.length c'] w fun e w' => e = .returned (.bool true) ∧ Keep w w' := by
  obtain ⟨n, hn⟩ : ∃ n, L.length = n := ⟨_, rfl⟩
  rw [hn] at hL ⊢
  have hne : ((n : Int) != (n : Int)) = false := by simp
  replace hn : Hid _ := hn
  replace h1 : Hid _ := h1
  replace h2 : Hid _ := h2
  go_enter Tryd.func21, Tryd.ntmps21
  go_wp2_with fail
  go_loopw [13] (fun iv wr => ∃ k : Nat, iv = .int .i64 k ∧ k ≤ n ∧ Keep w wr) (fun iv _ => n - (intOf iv).toNat)
  case atStart => exact ⟨0, rfl, by omega, Keep.refl w⟩
  case round =>
    obtain ⟨k, rfl, hk, kw⟩ := hrel
    by_cases hlt : k < n
    · have hltc : decide ((k : Int) < (n : Int)) = true := decide_eq_true (by omega)
      have x0 : (SvL L)[k]? = some (.string ⟨(L.getD k []).toArray⟩) := by simp [SvL, List.getD, show k < L.length by rw [hn.out]; exact hlt]
      obtain ⟨b, o, rfl, c0⟩ := RdG.keep h1.out kw _ _ x0
      obtain ⟨b', o', rfl, d0⟩ := RdG.keep h2.out kw _ _ x0
      generalize (L.getD k []) = x at *
      clear x0
      have HK : Hid (k < n) := hlt
      have kw' : Hid (Keep w wr) := kw
      clear h1 h2 kw
      go_wp2_with fail
      go_region
      all_goals
        go_wp2_with fail
        go_roundw
        case rel => exact ⟨k + 1, by go_num, by have := HK.out; omega, Keep.drew (Hid.out kw')⟩
        case measure => have := HK.out; simp [intOf]; omega
    · have hltc : ¬ (k : Int) < (n : Int) := by omega
      obtain rfl : k = n := by omega
      go_wp2_with fail
      go_ret
      exact ⟨rfl, kw⟩
end Go.Proofs.YtonfjmibnnioiaaDoor
