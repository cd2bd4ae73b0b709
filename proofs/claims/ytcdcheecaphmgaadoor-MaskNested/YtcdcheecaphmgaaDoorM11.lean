import Derived.Test.YtcdcheecaphmgaaDoorM10
set_option linter.unusedVariables false
set_option linter.unusedSimpArgs false
namespace Go.Proofs.YtcdcheecaphmgaaDoor
open Go.RowKit Go.Shelf
set_option maxRecDepth 100000 in
set_option maxHeartbeats 1000000 in
theorem SameM_eq (a b : Option Addr) (ca cb : Nat) (l : List (Nat × Nat × Nat)) (w : World) (hl : l.length ≤ 10000) (ra : RdM w a l) (rb : RdM w b l) :
    Calls Tryd.prog 15 #[.slice a l.length ca, .slice b l.length cb] w fun e w' => e = .returned (.bool true) ∧ Keep w w' := by
  go_enter Tryd.func15, Tryd.ntmps15
  go_wp2_with fail
  go_loopw [13] (fun iv wr => Keep w wr ∧ ∃ (i : Nat), i ≤ l.length ∧ iv = .int .i64 i) (fun iv _ => l.length - (intOf iv).toNat)
  case atStart => exact ⟨Keep.refl _, 0, by omega, rfl⟩
  case round =>
    obtain ⟨kw, i, hi, rfl⟩ := hrel
    by_cases hil : i < l.length
    · have hic : (i : Int) < (l.length : Int) := by omega
      obtain ⟨b1, o1, e1, p0, p1, p2⟩ := (ra.keep kw) i hil
      obtain ⟨b2, o2, e2, q0, q1, q2⟩ := (rb.keep kw) i hil
      subst e1 e2
      obtain ⟨m, hm⟩ : ∃ m, l.getD i m0 = m := ⟨_, rfl⟩
      rw [hm] at p0 p1 p2 q0 q1 q2
      obtain ⟨x, y, z⟩ := m
      simp only at p0 p1 p2 q0 q1 q2
      replace hm : Hid _ := hm
      replace kw : Hid _ := kw
      go_wp2_with fail
      go_region
      all_goals
        go_simp
        go_wp2_with fail
        exact ⟨⟨kw.out.drew, i + 1, by omega, by go_num⟩, by simp [intOf]; omega⟩
    · have hic : ¬ (i : Int) < (l.length : Int) := by omega
      replace kw : Hid _ := kw
      go_wp2_with fail
      go_ret
      exact ⟨rfl, kw.out⟩
set_option maxRecDepth 100000 in
set_option maxHeartbeats 1000000 in
theorem Sets_eq (a b : Option Addr) (ca cb : Nat) (ms : List (List Nat)) (w : World) (hl : ms.length ≤ 10000) (hm : ∀ i, i < ms.length → (ms.getD i []).length ≤ 10000) (ra : RdK w a ms) (rb : RdK w b ms) :
    Calls Tryd.prog 16 #[.slice a ms.length ca, .slice b ms.length cb] w fun e w' => e = .returned (.bool true) ∧ Keep w w' := by
  go_enter Tryd.func16, Tryd.ntmps16
  go_wp2_with fail
  go_loopw [13] (fun iv wr => Keep w wr ∧ ∃ (i : Nat), i ≤ ms.length ∧ iv = .int .i64 i) (fun iv _ => ms.length - (intOf iv).toNat)
  case atStart => exact ⟨Keep.refl _, 0, by omega, rfl⟩
  case round =>
    obtain ⟨kw, i, hi, rfl⟩ := hrel
    by_cases hil : i < ms.length
    · have hic : (i : Int) < (ms.length : Int) := by omega
      obtain ⟨b1, o1, g1, e1, p0, p1⟩ := (ra.keep (kw.drew)) i hil
      obtain ⟨b2, o2, g2, e2, q0, q1⟩ := (rb.keep (kw.drew)) i hil
      subst e1 e2
      have hS := Bi.Same_any (some ⟨g1, 0, none⟩) (some ⟨g2, 0, none⟩) (ms.getD i []).length (ms.getD i []).length (ms.getD i []) wr.drew (by have := hm i hil; omega) p1 q1
      generalize (ms.getD i []).length = n at *
      replace kw : Hid _ := kw
      clear p1 q1
      go_wp2_with fail
      go_region_with (go_at_call 24; refine hS.mono ?_; rintro e w6 ⟨rfl, k6⟩)
      all_goals
        have k6 : Keep _ _ := k6
        clear hS
        go_simp
        go_wp2_with fail
        exact ⟨⟨Keep.trans (Keep.drew kw.out) k6, i + 1, by omega, by go_num⟩, by simp [intOf]; omega⟩
    · have hic : ¬ (i : Int) < (ms.length : Int) := by omega
      replace kw : Hid _ := kw
      go_wp2_with fail
      go_ret
      exact ⟨rfl, kw.out⟩
end Go.Proofs.YtcdcheecaphmgaaDoor
